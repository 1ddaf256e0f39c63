/- The walk of GraphNone. -/
import Derived.Test.YtjihnkoimbcfnaaAl
import Derived.BigQuiet
import Derived.IntWalk
namespace Go.Proofs.Ytjihnkoimbcfnaa
open Go.RowKit
set_option linter.unusedVariables false
set_option linter.unusedSimpArgs false
theorem goneAt_nil (i : Nat) : goneAt [] i = false := by simp [goneAt]
theorem toN_nil (i : Nat) : toN [] i = i := by
  induction i with
  | zero => rfl
  | succ i ih => rw [toN_no (goneAt_nil i), ih]
theorem keepO_nil {o : List Int} (h : ∀ t ∈ o, 0 ≤ t) : keepO [] o = o := by
  unfold keepO
  induction o with
  | nil => rfl
  | cons t r ih =>
    have ht := h t (List.mem_cons_self ..)
    have ih' := ih (fun x hx => h x (List.mem_cons_of_mem _ hx))
    rw [List.filter_cons]
    rw [if_pos (by rw [goneAt_nil]; rfl), List.map_cons, ih', toN_nil, Int.toNat_of_nonneg ht]
theorem dropN_nil {G : List Pn} (h : ∀ x ∈ G, ∀ t ∈ x.2.2, 0 ≤ t) : dropN G [] G.length = G := by
  have e : ∀ k, k ≤ G.length → dropN G [] k = G.take k := by
    intro k
    induction k with
    | zero => intro _; rfl
    | succ k ih =>
      intro hk
      rw [dropN_no (goneAt_nil k), ih (by omega), List.take_add_one, List.getElem?_eq_getElem (by omega)]
      have hn : nAt G k = G[k] := nAt_get (List.getElem?_eq_getElem (by omega))
      have : dropNode [] (nAt G k) = G[k] := by
        unfold dropNode
        rw [keepO_nil (h _ (nAt_mem (by omega))), hn]
      rw [this]; rfl
  rw [e _ (Nat.le_refl _), List.take_length]
def allL (n : Nat) : List Int := (List.range n).map fun (i : Nat) => (i : Int)
theorem allL_succ (n : Nat) : allL (n + 1) = allL n ++ [(n : Int)] := by unfold allL; rw [List.range_succ, List.map_append]; rfl
theorem allL_len (n : Nat) : (allL n).length = n := by simp [allL]
theorem goneAt_all {n i : Nat} (h : i < n) : goneAt (allL n) i = true := decide_eq_true (List.mem_map.2 ⟨i, List.mem_range.2 h, rfl⟩)
theorem okTo_all (n : Nat) : OkTo n (allL n) := ⟨fun p hp => by
  obtain ⟨i, hi, rfl⟩ := List.mem_map.1 hp
  have := List.mem_range.1 hi
  omega, by
  unfold allL
  rw [List.nodup_iff_pairwise_ne, List.pairwise_map]
  exact (List.nodup_iff_pairwise_ne.1 List.nodup_range).imp (fun h e => h (by omega))⟩
theorem dropN_all (G : List Pn) : dropN G (allL G.length) G.length = [] := by
  unfold dropN
  have : (List.range G.length).filter (fun i => !goneAt (allL G.length) i) = [] := by
    rw [List.filter_eq_nil_iff]
    intro i hi
    rw [goneAt_all (List.mem_range.1 hi)]
    simp
  rw [this]; rfl
theorem goneAt_one (a j : Nat) : goneAt [(a : Int)] j = decide (j = a) := by
  unfold goneAt
  by_cases h : j = a
  · subst h; simp
  · rw [decide_eq_false h, decide_eq_false (by simp; omega)]
theorem goneAt_two (a b j : Nat) : goneAt [(a : Int), (b : Int)] j = decide (j = a ∨ j = b) := by
  unfold goneAt
  by_cases h : j = a ∨ j = b
  · rw [decide_eq_true h, decide_eq_true (by simp; omega)]
  · rw [decide_eq_false h, decide_eq_false (by simp; omega)]
theorem toN_one (a : Nat) : ∀ j, toN [(a : Int)] j = if j ≤ a then j else j - 1
  | 0 => rfl
  | j + 1 => by
    by_cases h : j = a
    · rw [toN_yes (by rw [goneAt_one]; exact decide_eq_true h), toN_one a j, if_pos (by omega), if_neg (by omega)]; omega
    · rw [toN_no (by rw [goneAt_one]; exact decide_eq_false h), toN_one a j]
      by_cases h2 : j ≤ a
      · rw [if_pos h2, if_pos (by omega)]
      · rw [if_neg h2, if_neg (by omega)]; omega
theorem toN_two {a b mn mx : Nat} (h1 : mn < mx) (h2 : (a = mn ∧ b = mx) ∨ (a = mx ∧ b = mn)) : ∀ j, toN [(a : Int), (b : Int)] j = if j ≤ mn then j else if j ≤ mx then j - 1 else j - 2
  | 0 => rfl
  | j + 1 => by
    by_cases h : j = a ∨ j = b
    · rw [toN_yes (by rw [goneAt_two]; exact decide_eq_true h), toN_two h1 h2 j]
      split <;> split <;> (try split) <;> (try split) <;> omega
    · rw [toN_no (by rw [goneAt_two]; exact decide_eq_false h), toN_two h1 h2 j]
      split <;> split <;> (try split) <;> (try split) <;> omega
/-- Both steps of one place. -/
theorem toN_steps {a b mn mx : Nat} (h1 : mn < mx) (h2 : (a = mn ∧ b = mx) ∨ (a = mx ∧ b = mn)) {p : Nat} (hp : p ≠ mx) (hq : p ≠ mn) : toN [(mn : Int)] (toN [(mx : Int)] p) = toN [(a : Int), (b : Int)] p := by
  rw [toN_two h1 h2, toN_one, toN_one]
  split <;> split <;> (try split) <;> (try split) <;> omega
theorem gone_steps {a b mn mx : Nat} (h1 : mn < mx) (h2 : (a = mn ∧ b = mx) ∨ (a = mx ∧ b = mn)) {p : Nat} (hp : p ≠ mx) : goneAt [(mn : Int)] (toN [(mx : Int)] p) = goneAt [(a : Int), (b : Int)] p := by
  rw [goneAt_one, goneAt_two, toN_one]
  by_cases h : p = mn
  · rw [decide_eq_true (by split <;> omega), decide_eq_true (by omega)]
  · rw [decide_eq_false (by split <;> omega), decide_eq_false (by omega)]
theorem keepO_steps {a b mn mx : Nat} (h1 : mn < mx) (h2 : (a = mn ∧ b = mx) ∨ (a = mx ∧ b = mn)) {o : List Int} (h : ∀ t ∈ o, 0 ≤ t) : keepO [(mn : Int)] (keepO [(mx : Int)] o) = keepO [(a : Int), (b : Int)] o := by
  induction o with
  | nil => rfl
  | cons t r ih =>
    have ht := h t (List.mem_cons_self ..)
    have ih' := ih (fun x hx => h x (List.mem_cons_of_mem _ hx))
    obtain ⟨p, rfl⟩ := Int.eq_ofNat_of_zero_le ht
    have hc : ∀ (P : List Int) (q : Nat) (r : List Int), keepO P ((q : Int) :: r) = if goneAt P q then keepO P r else ((toN P q : Nat) : Int) :: keepO P r := fun P q r => by
      unfold keepO
      rw [List.filter_cons, Int.toNat_natCast]
      cases goneAt P q <;> simp
    rw [hc, hc]
    by_cases hp : p = mx
    · rw [if_pos (by rw [goneAt_one]; exact decide_eq_true hp), if_pos (by rw [goneAt_two]; exact decide_eq_true (by omega))]
      exact ih'
    · rw [if_neg (by rw [goneAt_one, decide_eq_false hp]; simp), hc, gone_steps h1 h2 hp]
      by_cases hq : p = mn
      · rw [if_pos (by rw [goneAt_two]; exact decide_eq_true (by omega)), if_pos (by rw [goneAt_two]; exact decide_eq_true (by omega))]
        exact ih'
      · rw [if_neg (by rw [goneAt_two, decide_eq_false (by omega)]; simp), if_neg (by rw [goneAt_two, decide_eq_false (by omega)]; simp), toN_steps h1 h2 hp hq, ih']
/-- The place ahead of a drop. -/
def skP (a j : Nat) : Nat := if j < a then j else j + 1
theorem idx_steps {a b mn mx : Nat} (h1 : mn < mx) (h2 : (a = mn ∧ b = mx) ∨ (a = mx ∧ b = mn)) : ∀ m, ((List.range m).filter (fun j => !goneAt [(mn : Int)] j)).map (skP mx) = (List.range (if m ≤ mx then m else m + 1)).filter (fun j => !goneAt [(a : Int), (b : Int)] j)
  | 0 => by simp
  | m + 1 => by
    have ih := idx_steps h1 h2 m
    rw [List.range_succ, List.filter_append, List.map_append, ih]
    have g1 : goneAt [(mn : Int)] m = decide (m = mn) := goneAt_one _ _
    by_cases c1 : m < mx
    · rw [if_pos (by omega), if_pos (by omega), List.range_succ, List.filter_append]
      have g2 : goneAt [(a : Int), (b : Int)] m = decide (m = mn) := by rw [goneAt_two]; apply decide_eq_decide.2; omega
      congr 1
      simp only [List.filter_cons, List.filter_nil, g1, g2]
      by_cases h : m = mn
      · simp [h]
      · simp [h, skP, c1]
    · have g1' : goneAt [(mn : Int)] m = false := by rw [g1]; exact decide_eq_false (by omega)
      have hs : skP mx m = m + 1 := by unfold skP; rw [if_neg c1]
      have g3 : goneAt [(a : Int), (b : Int)] (m + 1) = false := by rw [goneAt_two]; exact decide_eq_false (by omega)
      by_cases c2 : m = mx
      · rw [if_pos (by omega), if_neg (by omega), List.range_succ (n := m + 1), List.range_succ (n := m), List.filter_append, List.filter_append]
        have g2 : goneAt [(a : Int), (b : Int)] m = true := by rw [goneAt_two]; exact decide_eq_true (by omega)
        simp [List.filter_cons, g1', g2, g3, hs]
      · rw [if_neg (by omega), if_neg (by omega), List.range_succ (n := m + 1), List.filter_append]
        simp [List.filter_cons, g1', g3, hs]
theorem idx_one (a : Nat) : ∀ m, (List.range (if m ≤ a then m else m + 1)).filter (fun j => !goneAt [(a : Int)] j) = (List.range m).map (skP a)
  | 0 => by simp
  | m + 1 => by
    have ih := idx_one a m
    rw [List.range_succ (n := m), List.map_append, ← ih]
    by_cases c1 : m < a
    · rw [if_pos (by omega), if_pos (by omega), List.range_succ, List.filter_append]
      have g : goneAt [(a : Int)] m = false := by rw [goneAt_one]; exact decide_eq_false (by omega)
      simp [List.filter_cons, g, skP, c1]
    · have hs : skP a m = m + 1 := by unfold skP; rw [if_neg c1]
      have g3 : goneAt [(a : Int)] (m + 1) = false := by rw [goneAt_one]; exact decide_eq_false (by omega)
      by_cases c2 : m = a
      · rw [if_neg (by omega), if_pos (by omega), List.range_succ (n := m + 1), List.range_succ (n := m), List.filter_append, List.filter_append]
        have g2 : goneAt [(a : Int)] m = true := by rw [goneAt_one]; exact decide_eq_true c2
        simp [List.filter_cons, g2, g3, hs]
      · rw [if_neg (by omega), if_neg (by omega), List.range_succ (n := m + 1), List.filter_append]
        simp [List.filter_cons, g3, hs]
theorem dropN_one_at {G : List Pn} {a j : Nat} (ha : a < G.length) (hj : j < G.length - 1) : nAt (dropN G [(a : Int)] G.length) j = dropNode [(a : Int)] (nAt G (skP a j)) := by
  have h := idx_one a (G.length - 1)
  have e : (if G.length - 1 ≤ a then G.length - 1 else G.length - 1 + 1) = if a = G.length - 1 then G.length - 1 else G.length := by
    split <;> split <;> omega
  have e2 : (List.range G.length).filter (fun j => !goneAt [(a : Int)] j) = (List.range (G.length - 1)).map (skP a) := by
    rw [← h, e]
    split
    · rename_i q
      obtain ⟨m, hm⟩ : ∃ m, G.length = m + 1 := ⟨G.length - 1, by omega⟩
      rw [hm, List.range_succ, List.filter_append]
      have g2 : goneAt [(a : Int)] m = true := by rw [goneAt_one]; exact decide_eq_true (by omega)
      simp [List.filter_cons, g2]
    · rfl
  apply nAt_get
  unfold dropN
  rw [e2]
  simp [hj]
theorem dropN_one_len {G : List Pn} {a : Nat} (ha : a < G.length) : (dropN G [(a : Int)] G.length).length = G.length - 1 := by
  rw [dropN_len, toN_one, if_neg (by omega)]
theorem dropN_steps {G : List Pn} {a b mn mx : Nat} (h1 : mn < mx) (h2 : (a = mn ∧ b = mx) ∨ (a = mx ∧ b = mn)) (hx : mx < G.length) (ho : ∀ x ∈ G, ∀ t ∈ x.2.2, 0 ≤ t) :
    dropN (dropN G [(mx : Int)] G.length) [(mn : Int)] (dropN G [(mx : Int)] G.length).length = dropN G [(a : Int), (b : Int)] G.length := by
  rw [dropN_one_len hx]
  have h := idx_steps h1 h2 (G.length - 1)
  have e2 : (List.range G.length).filter (fun j => !goneAt [(a : Int), (b : Int)] j) = ((List.range (G.length - 1)).filter (fun j => !goneAt [(mn : Int)] j)).map (skP mx) := by
    rw [h]
    split
    · rename_i q
      obtain ⟨m, hm⟩ : ∃ m, G.length = m + 1 := ⟨G.length - 1, by omega⟩
      rw [hm, List.range_succ, List.filter_append]
      have g2 : goneAt [(a : Int), (b : Int)] m = true := by rw [goneAt_two]; exact decide_eq_true (by omega)
      simp [List.filter_cons, g2]
    · rw [show G.length - 1 + 1 = G.length by omega]
  unfold dropN
  rw [e2, List.map_map]
  apply List.map_congr_left
  intro j hj
  have hj' := List.mem_range.1 (List.mem_filter.1 hj).1
  have e3 : nAt (dropN G [(mx : Int)] G.length) j = dropNode [(mx : Int)] (nAt G (skP mx j)) := dropN_one_at hx hj'
  unfold dropN at e3
  rw [e3]
  show dropNode [(mn : Int)] (dropNode [(mx : Int)] (nAt G (skP mx j))) = dropNode [(a : Int), (b : Int)] (nAt G (skP mx j))
  unfold dropNode
  rw [keepO_steps h1 h2 (ho _ (nAt_mem (by unfold skP; split <;> omega)))]
theorem rem_int9 (x n : Nat) : Int.tmod (x : Int) (n : Int) = ((x % n : Nat) : Int) := rfl
theorem u16_of_wf9 {n : Int} (h : (Lit.int .u16 n).wf = true) : 0 ≤ n ∧ n ≤ 65535 := by
  have h1 : IntKind.u16.min = 0 := rfl
  have h2 : IntKind.u16.max = 65535 := rfl
  simp only [Lit.wf, Bool.and_eq_true, decide_eq_true_eq] at h
  omega
theorem keepO_mem {P o : List Int} {t : Int} (h : t ∈ keepO P o) : ∃ p ∈ o, goneAt P p.toNat = false ∧ t = ((toN P p.toNat : Nat) : Int) := by
  unfold keepO at h
  obtain ⟨p, hp, rfl⟩ := List.mem_map.1 h
  have := List.mem_filter.1 hp
  exact ⟨p, this.1, by simpa using this.2, rfl⟩
theorem drop_sz (G : List Pn) (P : List Int) : ∀ k, k ≤ G.length → ((dropN G P k).map szN).sum ≤ ((G.take k).map szN).sum
  | 0, _ => Nat.zero_le _
  | k + 1, hk => by
    have ih := drop_sz G P k (by omega)
    have e : G.take (k + 1) = G.take k ++ [nAt G k] := by
      rw [List.take_add_one, List.getElem?_eq_getElem (by omega), nAt_get (List.getElem?_eq_getElem (by omega : k < G.length))]; rfl
    rw [e, List.map_append, List.sum_append]
    cases hg : goneAt P k with
    | true => rw [dropN_yes hg]; omega
    | false =>
      rw [dropN_no hg, List.map_append, List.sum_append]
      have : szN (dropNode P (nAt G k)) ≤ szN (nAt G k) := by
        unfold szN dropNode
        have := keepO_len P (nAt G k).2.2
        show (nAt G k).2.1.length + (keepO P (nAt G k).2.2).length ≤ _
        omega
      simp only [List.map_cons, List.map_nil, List.sum_cons, List.sum_nil]
      omega
theorem dropN_small9 {G : List Pn} (P : List Int) (h : GSmall G) (hl : G.length ≤ 2048) : GSmall (dropN G P G.length) := by
  have h1 := drop_sz G P G.length (Nat.le_refl _)
  rw [List.take_length] at h1
  have h2 : (dropN G P G.length).length ≤ G.length := by rw [dropN_len]; exact toN_le _ _
  have h3 := h.1
  have h4 := h.2
  unfold szG at h3
  exact ⟨by unfold szG; omega, .inl (by omega)⟩
theorem dropN_ok9 {G : List Pn} (P : List Int) (h : ∀ x ∈ G, PnOk x) : ∀ x ∈ dropN G P G.length, PnOk x := fun x hx => by
  obtain ⟨i, hi, rfl⟩ := dropN_mem hx
  obtain ⟨h1, h2, h3⟩ := h _ (nAt_mem hi)
  refine ⟨h1, h2, fun t ht => ?_⟩
  obtain ⟨p, hp, _, rfl⟩ := keepO_mem ht
  have := h3 p hp
  have := toN_le P p.toNat
  omega
theorem dropN_holds9 {G : List Pn} {s : Int} {a : Nat} (h : holdsB G s = true) (ha : a < G.length) (hn : 2 ≤ G.length) : holdsB (dropN G [(a : Int)] G.length) (if goneAt [(a : Int)] s.toNat then 0 else ((toN [(a : Int)] s.toNat : Nat) : Int)) = true := by
  obtain ⟨h1, h2, h3, h4⟩ := holdsB_yes h
  have hl := dropN_one_len ha
  refine decide_eq_true ⟨by omega, ?_, ?_, fun x hx t ht => ?_⟩
  · split <;> omega
  · left
    rw [hl]
    split
    · omega
    · rename_i hg
      have hne : s.toNat ≠ a := fun e => hg (by rw [goneAt_one]; exact decide_eq_true e)
      rw [toN_one]
      split <;> omega
  · obtain ⟨i, hi, rfl⟩ := dropN_mem hx
    obtain ⟨p, hp, hg, rfl⟩ := keepO_mem ht
    have hr := h4 _ (nAt_mem hi) p hp
    rw [hl, toN_one]
    have hne : p.toNat ≠ a := fun e => by rw [goneAt_one, e] at hg; simp at hg
    split <;> omega
theorem own_nil8 {w : World} {base c : Nat} {A : Option Addr} {T : List Gn} (h : OwnG w base A c T) : ∀ x ∈ T, x.2.1.1 = none → x.2.1.2.1 = 0 := fun x hx hn => by
  rcases (h.vec x hx).2 with ⟨h0, _⟩ | ⟨g, cap, cur, e, _⟩
  · injection h0
  · rw [hn] at e; injection e with e; cases e
theorem OwnG.far9 {w : World} {base b : Nat} {A : Option Addr} {c : Nat} {T : List Gn} {cs : Array Value} (h : OwnG w base A c T) (hw : Whole w b 24 cs) (i : Nat) (u : Value) : OwnG (w.setCell ⟨b, i, none⟩ u) base A c T :=
  ⟨own_far h.row hw (by decide) i u, fun x hx => own_far (h.vec x hx) hw (by decide) i u, fun x hx => own_far (h.out x hx) hw (by decide) i u, h.av, h.ao⟩
/-- What Drop answers of places that are there. -/
theorem dropB_yes {G : List Pn} {s : Int} {P : List Int} (h : holdsB G s = true) (hP : OkTo G.length P) : dropB G s P = true := by unfold dropB; rw [h, decide_eq_true hP]; rfl
theorem dropA_yes {G : List Pn} {s : Int} {P : List Int} (h : dropB G s P = true) : dropA G s P = dropN G P G.length := by unfold dropA; rw [if_pos h]
theorem dropS_yes {G : List Pn} {s : Int} {P : List Int} (h : dropB G s P = true) (hn : 0 < G.length) : dropS G s P = if goneAt P s.toNat then 0 else ((toN P s.toNat : Nat) : Int) := by
  unfold dropS
  rw [h, decide_eq_true hn]
  cases goneAt P s.toNat <;> simp
theorem okTo_one {n a : Nat} (h : a < n) : OkTo n [(a : Int)] := ⟨fun p hp => by rw [List.mem_singleton] at hp; omega, by simp⟩
theorem okTo_two {n a b : Nat} (ha : a < n) (hb : b < n) (h : a ≠ b) : OkTo n [(a : Int), (b : Int)] := ⟨fun p hp => by simp at hp; omega, by simp; omega⟩
set_option maxRecDepth 100000 in
set_option maxHeartbeats 8000000 in
theorem graphNone_main (A : Option Addr) (c : Nat) (L : List Gn) (s p q : Int) (w : World) (hx : GGiven w A L) (hnl : ∀ x ∈ L, x.2.1.1 = none → x.2.1.2.1 = 0) (wp : (Lit.int .u16 p).wf = true) (wq : (Lit.int .u16 q).wf = true) :
    Calls Try.prog 8 #[.agg #[.slice A L.length c, .int .i64 s], .int .u16 p, .int .u16 q] w fun e w' => e = .returned (.bool true) ∧ Below w.heap.size w w' := by
  have HW0 := Lib.hid (Whole.new w 24 #[.slice A L.length c, .int .i64 s])
  have HB0 := Lib.hid (below_one (Below.refl w.heap.size w) (.cells #[.slice A L.length c, .int .i64 s] 24))
  have HX := Lib.hid hx
  have HNL := Lib.hid hnl
  have up := u16_of_wf9 wp
  have uq := u16_of_wf9 wq
  obtain ⟨pN, rfl⟩ := Int.eq_ofNat_of_zero_le up.1
  obtain ⟨qN, rfl⟩ := Int.eq_ofNat_of_zero_le uq.1
  have hpN : pN ≤ 65535 := by omega
  have hqN : qN ≤ 65535 := by omega
  clear hx hnl wp wq up uq
  go_enter Try.func8, Try.ntmps8
  go_wp2_with fail
  obtain ⟨w1, ew1⟩ : ∃ w1, w.alloc (.cells #[.slice A L.length c, .int .i64 s] 24) = w1 := ⟨_, rfl⟩
  rw [ew1] at HW0 HB0 ⊢
  obtain ⟨g, eg⟩ : ∃ g, w.heap.size = g := ⟨_, rfl⟩
  rw [eg] at HW0 ⊢
  have HG := Lib.hid eg
  clear ew1 eg
  refine (alive_any w1).mono ?_
  rintro e w2 ⟨rfl, b2⟩
  dsimp only
  have HB2 := Lib.hid (HB0.out.trans (b2.mono HB0.out.size))
  have Z2 := HW0.out.below b2 HW0.out.lt
  have HZ2 := Lib.hid Z2
  have y0 := Z2.cell 0
  have y1 := Z2.cell 1
  clear Z2 b2 HB0 HW0
  go_wp2_with fail
  refine (great9_any A c L s w2 (HX.out.below HB2.out)).mono ?_
  rintro e w3 ⟨⟨gb, rfl, hgb⟩, b3⟩
  dsimp only
  have HB3 := Lib.hid (HB2.out.trans (b3.mono HB2.out.size))
  cases gb with
  | true =>
    clear hgb y0 y1
    go_wp2_with fail
    refine (alive_any w3).mono ?_
    rintro e w4 ⟨rfl, b4⟩
    dsimp only
    go_wp2
    go_ret
    exact ⟨rfl, HB3.out.trans (b4.mono HB3.out.size)⟩
  | false =>
    have HSM := Lib.hid (hgb rfl)
    have Z3 := HZ2.out.below b3 HZ2.out.lt
    have HZ3 := Lib.hid Z3
    clear hgb y0 y1 b3 HZ2 HB2
    have HAR : Hid (GArg w A L) := Lib.hid (HX.out.arg HSM.out)
    have y0 := Z3.cell 0
    have y1 := Z3.cell 1
    clear Z3
    have hL : L.length ≤ 20000 := by have := HSM.out.len; rwa [pns_len] at this
    by_cases hn : 2 ≤ L.length
    case neg =>
      have ez : decide ((L.length : Int) < 2) = true := decide_eq_true (by omega)
      go_wp2_with fail
      refine (alive_any w3).mono ?_
      rintro e w4 ⟨rfl, b4⟩
      dsimp only
      go_wp2
      go_ret
      exact ⟨rfl, HB3.out.trans (b4.mono HB3.out.size)⟩
    have ez : decide ((L.length : Int) < 2) = false := decide_eq_false (by omega)
    have C1 := drop_any A c L s none 0 [] w3 (HAR.out.below HB3.out) HNL.out (rd_nil _ _ _) (by simp)
    cases hh : holdsB (pns L) s with
    | false =>
      have E0 : dropB (pns L) s [] = false := by unfold dropB; rw [hh]; rfl
      have E1 : dropA (pns L) s [] = [] := by unfold dropA; rw [E0]; rfl
      have E2 : dropS (pns L) s [] = 0 := by unfold dropS; rw [E0]; rfl
      rw [E0, E1, E2, show errG false = 1 from rfl] at C1
      have C1' : Calls Try.prog 30 #[.agg #[.slice A L.length c, .int .i64 s], .slice none 0 0] w3 (GAns w3 [] 0 1) := C1
      clear hh E0 E1 E2 C1
      go_wp2_with fail
      refine C1'.mono ?_
      rintro e w4 ⟨A4, q4, T4, rfl, o4, v4, b4⟩
      dsimp only
      clear o4 v4 C1'
      go_wp2
      go_ret
      exact ⟨rfl, HB3.out.trans ((below_one b4 _).mono HB3.out.size)⟩
    | true =>
      obtain ⟨hs1, hs2, hs3, hs4⟩ := holdsB_yes hh
      have HLN := Lib.hid (pns_len L)
      have hLN := pns_len L
      obtain ⟨sN, rfl⟩ := Int.eq_ofNat_of_zero_le hs2
      have hsN : sN < L.length := by omega
      have HPOS : Hid (∀ x ∈ pns L, ∀ t ∈ x.2.2, 0 ≤ t) := Lib.hid (fun x hx t ht => (hs4 x hx t ht).1)
      have hl2 : (pns L).length ≤ 2048 := hs1
      have HHB := Lib.hid hh
      have E0 : dropB (pns L) (sN : Int) [] = true := dropB_yes hh (OkTo.nil _)
      have E1 : dropA (pns L) (sN : Int) [] = pns L := by rw [dropA_yes E0, dropN_nil HPOS.out]
      have E2 : dropS (pns L) (sN : Int) [] = (sN : Int) := by rw [dropS_yes E0 (by omega), goneAt_nil, toN_nil, Int.toNat_natCast]; rfl
      rw [E0, E1, E2, show errG true = 0 from rfl] at C1
      have C1' : Calls Try.prog 30 #[.agg #[.slice A L.length c, .int .i64 (sN : Int)], .slice none 0 0] w3 (GAns w3 (pns L) (sN : Int) 0) := C1
      clear hh E0 E1 E2 C1 hs1 hs2 hs3 hs4
      go_upto_region 4 with (go_at_call 30; refine C1'.mono ?_; rintro e w4 ⟨A4, q4, T4, rfl, o4, v4, b4⟩)
      obtain ⟨w5, ew5⟩ : ∃ w5, w4.alloc (.cells #[.slice A4 T4.length q4, .int .i64 (sN : Int)] 24) = w5 := ⟨_, rfl⟩
      obtain ⟨x5, ex5⟩ : ∃ x5, w4.heap.size = x5 := ⟨_, rfl⟩
      have b5 : Below w3.heap.size w3 w5 := by rw [← ew5]; exact below_one b4 _
      have z5 : Whole w5 x5 24 #[.slice A4 T4.length q4, .int .i64 (sN : Int)] := by rw [← ew5, ← ex5]; exact Whole.new w4 _ _
      have b45 : Below w4.heap.size w4 w5 := by rw [← ew5]; exact below_one (Below.refl _ _) _
      have HR4 := Lib.hid ((o4.rd.below b45).more b45.size)
      have HV4 := Lib.hid v4
      have hl4 : T4.length ≤ 20000 := by have := pns_len T4; rw [v4, hLN] at this; omega
      have HB5 := Lib.hid (HB3.out.trans (b5.mono HB3.out.size))
      have HZ5 := Lib.hid z5
      have HG5 := Lib.hid (HZ3.out.below b5 HZ3.out.lt)
      have HCL : Hid (∀ W, Below w5.heap.size w5 W → W.cell? ⟨g, 0, none⟩ = some (.slice A L.length c) ∧ W.cell? ⟨g, 1, none⟩ = some (.int .i64 (sN : Int))) := Lib.hid (fun W h => by
        have z := HG5.out.below h HG5.out.lt
        exact ⟨z.cell 0, z.cell 1⟩)
      rw [ew5, ex5]
      obtain ⟨i0, hi0, hz0, hz1, hz2⟩ := info_parts Try.info3
      have CA : Hid (w5.ownsRow w5.heap.size 3 1 (.slice none 0 0) (allL 0).length ((allL 0).map (Value.int .i64))) := Lib.hid (own_nil_row _ _ _)
      have CB : Hid (Below w5.heap.size w5 w5) := Lib.hid (Below.refl _ _)
      clear y0 y1 ew5 ex5 b5 z5 b45 o4 v4 b4 C1' hLN
      go_wp2
      go_loopw [9, 10] (fun l i wr => ∃ (k : Nat) (VA : Option Addr) (vc : Nat), k ≤ L.length ∧ i = .int .i64 k ∧ l = .slice VA (allL k).length vc ∧ Hid (wr.ownsRow w5.heap.size 3 1 (.slice VA (allL k).length vc) (allL k).length ((allL k).map (Value.int .i64))) ∧ Hid (Below w5.heap.size w5 wr)) (fun _ i _ => L.length - (intOf i).toNat)
      case atStart => exact ⟨0, none, 0, by omega, rfl, rfl, CA, CB⟩
      case round =>
        clear CA CB
        obtain ⟨m, VA, vc, hm, rfl, rfl, HR, HB⟩ := hrel
        have hsz := HB.out.size
        obtain ⟨y0, y1⟩ := HCL.out _ HB.out
        by_cases hlm : m < L.length
        · have e1 : decide ((m : Int) < (L.length : Int)) = true := decide_eq_true (by omega)
          have HS := Lib.hid (allL_succ m)
          have hln := allL_len m
          obtain ⟨RK, eRK⟩ : ∃ RK, allL m = RK := ⟨_, rfl⟩
          rw [eRK] at HR HS hln ⊢
          clear eRK
          go_wp2_with (at_builtin; refine wpList_append_own _ rfl _ _ 35 rfl w5.heap.size 3 i0 (.int .i64 0) 1 8 Try.underlying35 hi0 hz0 hz1 hz2 rfl (by decide) _ _ _ rfl (HR.out.alloc _) ⟨wr.heap.size, 0, none⟩ 1 1 [.int .i64 (m : Int)] rfl rfl (cell_one_new _ _ _) (by simp [Value.oneCell']) (by show RK.length + 1 ≤ 9223372036854775807; omega) (by omega) (by rw [World.size_alloc]; omega) ?_; intro v' w6 hown' hgrow _)
          obtain ⟨V4, m4, c4, rfl⟩ := own_form hown'
          obtain rfl := own_len hown'
          have b3 := Lib.hid ((HB.out.alloc hsz (.cells #[.int .i64 (m : Int)] 3)).grown hgrow (by rw [World.size_alloc]; omega) (fun r hr => (HR.out.lt r hr).1))
          have hq : RK.length + 1 = (allL (m + 1)).length := by rw [HS.out]; simp
          have HR2 : Hid (w6.ownsRow w5.heap.size 3 1 (.slice V4 (allL (m + 1)).length c4) (allL (m + 1)).length ((allL (m + 1)).map (Value.int .i64))) := Lib.hid (by
            rw [← hq, HS.out, List.map_append]; exact hown')
          clear hown' hgrow
          go_roundw
          case rel => exact ⟨m + 1, V4, c4, by omega, by go_num, by rw [hq], HR2, b3⟩
          case measure => simp [intOf]; omega
        · obtain rfl : m = L.length := by omega
          have e1 : decide ((L.length : Int) < (L.length : Int)) = false := decide_eq_false (by omega)
          clear e1
          have HBW := Lib.hid (HB5.out.trans (HB.out.mono HB5.out.size))
          have EB : dropB (pns L) (sN : Int) (allL L.length) = true := dropB_yes HHB.out (by rw [HLN.out]; exact okTo_all _)
          have EA : dropA (pns L) (sN : Int) (allL L.length) = [] := by rw [dropA_yes EB]; have := dropN_all (pns L); rw [HLN.out] at this ⊢; exact this
          have ES : dropS (pns L) (sN : Int) (allL L.length) = 0 := by rw [dropS_yes EB (by rw [HLN.out]; omega), Int.toNat_natCast, goneAt_all hsN]; rfl
          have C2 := drop_any A c L (sN : Int) VA vc (allL L.length) wr (HAR.out.below HBW.out) HNL.out (own_rdK HR.out) (by have := allL_len L.length; omega)
          rw [EB, EA, ES, show errG true = 0 from rfl] at C2
          have BB := HB.out
          clear EB EA ES HR
          go_upto_region 12 with (go_at_call 30; refine C2.mono ?_; rintro e w6 ⟨A6, q6, T6, rfl, o6, v6, b6⟩)
          have h6 : T6 = [] := List.map_eq_nil_iff.1 v6
          subst h6
          obtain ⟨w7, ew7⟩ : ∃ w7, w6.alloc (.cells #[.slice A6 ([] : List Gn).length q6, .int .i64 0] 24) = w7 := ⟨_, rfl⟩
          obtain ⟨x7, ex7⟩ : ∃ x7, w6.heap.size = x7 := ⟨_, rfl⟩
          have b7 : Below w5.heap.size w5 w7 := by rw [← ew7]; exact BB.trans ((below_one b6 _).mono BB.size)
          have z7 : Whole w7 x7 24 #[.slice A6 0 q6, .int .i64 0] := by rw [← ew7, ← ex7]; exact Whole.new w6 _ _
          have HZ7 := Lib.hid z7
          have HB57 := Lib.hid b7
          have hgx : g < w5.heap.size := HG5.out.lt
          have hx5 : x5 < w5.heap.size := HZ5.out.lt
          have HC7 : Hid (∀ W, Below w7.heap.size w7 W → (W.cell? ⟨g, 0, none⟩ = some (.slice A L.length c) ∧ W.cell? ⟨g, 1, none⟩ = some (.int .i64 (sN : Int))) ∧ (W.cell? ⟨x5, 0, none⟩ = some (.slice A4 T4.length q4) ∧ W.cell? ⟨x5, 1, none⟩ = some (.int .i64 (sN : Int))) ∧ W.cell? ⟨x7, 0, none⟩ = some (.slice A6 0 q6) ∧ W.cell? ⟨x7, 1, none⟩ = some (.int .i64 0)) := Lib.hid (fun W h => by
            have hW : Below w5.heap.size w5 W := HB57.out.trans (h.mono HB57.out.size)
            have z := HZ5.out.below hW HZ5.out.lt
            have z' := HZ7.out.below h HZ7.out.lt
            exact ⟨HCL.out _ hW, ⟨z.cell 0, z.cell 1⟩, z'.cell 0, z'.cell 1⟩)
          have HB7 := Lib.hid (HB5.out.trans (b7.mono HB5.out.size))
          rw [ew7, ex7]
          clear ew7 ex7 b7 z7 o6 v6 b6 C2 BB HB y0 y1 HBW hsz
          obtain ⟨⟨y0, y1⟩, ⟨y2, y3⟩, y4, y5⟩ := HC7.out _ (Below.refl _ _)
          have e1 : IntKind.i64.wrap (pN : Int) = (pN : Int) := IntWalk.i64_in _ (by omega)
          have e2 : IntKind.i64.wrap (qN : Int) = (qN : Int) := IntWalk.i64_in _ (by omega)
          have e3 := rem_int9 pN L.length
          have e4 := rem_int9 qN L.length
          obtain ⟨i, ei⟩ : ∃ i, pN % L.length = i := ⟨_, rfl⟩
          obtain ⟨k, ek⟩ : ∃ k, qN % L.length = k := ⟨_, rfl⟩
          have hi : i < L.length := by rw [← ei]; exact Nat.mod_lt _ (by omega)
          have hk : k < L.length := by rw [← ek]; exact Nat.mod_lt _ (by omega)
          rw [ei] at e3
          rw [ek] at e4
          have e5 : IntKind.i64.wrap (i : Int) = (i : Int) := IntWalk.i64_in _ (by omega)
          have e6 : IntKind.i64.wrap (k : Int) = (k : Int) := IntWalk.i64_in _ (by omega)
          have ez2 : ((L.length : Int) == 0) = false := by rw [beq_eq_false_iff_ne]; omega
          clear ei ek
          have HSG : Hid (∀ W, Below w7.heap.size w7 W → Calls Try.prog 32 #[.agg #[.slice A4 T4.length q4, .int .i64 (sN : Int)], .agg #[.slice A L.length c, .int .i64 (sN : Int)]] W fun e w' => e = .returned (.bool true) ∧ Below W.heap.size W w') := Lib.hid (fun W h => by
            have hW : Below w5.heap.size w5 W := HB57.out.trans (h.mono HB57.out.size)
            have hW0 : Below w.heap.size w W := HB5.out.trans (hW.mono HB5.out.size)
            exact sameGraph_any A4 q4 T4 A c L (sN : Int) W W.heap.size (Nat.le_refl _) ((HR4.out.below hW).more hW.size) (HAR.out.below hW0).rd HV4.out hl4 (by rw [HV4.out]; exact fun x h => HSM.out.at_ h))
          have HSN : Hid (∀ W, Below w7.heap.size w7 W → Calls Try.prog 32 #[.agg #[.slice A6 0 q6, .int .i64 0], .agg #[.slice none 0 0, .int .i64 0]] W fun e w' => e = .returned (.bool true) ∧ Below W.heap.size W w') := Lib.hid (fun W h => sameGraph_any A6 q6 [] none 0 [] 0 W W.heap.size (Nat.le_refl _) (fun h => absurd h (Nat.not_lt_zero _)) (fun h => absurd h (Nat.not_lt_zero _)) rfl (by simp) (by intro x hx; simp [pns] at hx))
          by_cases hik : i = k
          case pos =>
            have e7 : ((i : Int) == (k : Int)) = true := by rw [hik]; simp
            clear hik
            go_wp2_with fail
            refine (HSG.out _ (Below.refl _ _)).mono ?_
            rintro e w8 ⟨rfl, b8⟩
            dsimp only
            clear y0 y1 y2 y3 y4 y5
            obtain ⟨⟨y0, y1⟩, ⟨y2, y3⟩, y4, y5⟩ := HC7.out _ b8
            go_wp2_with fail
            refine (HSN.out _ b8).mono ?_
            rintro e w9 ⟨rfl, b9⟩
            dsimp only
            go_wp2
            go_ret
            exact ⟨rfl, HB7.out.trans ((b8.trans (b9.mono b8.size)).mono HB7.out.size)⟩
          have e7 : ((i : Int) == (k : Int)) = false := by rw [beq_eq_false_iff_ne]; omega
          rcases Nat.lt_or_gt_of_ne hik with hlt | hlt
          · have hm1 : i < k := hlt
            have g1 : decide ((i : Int) < (k : Int)) = true := decide_eq_true (by omega)
            have g2 : decide ((k : Int) < (i : Int)) = false := decide_eq_false (by omega)
            have hmx : k < (pns L).length := by rw [HLN.out]; omega
            have hn2 : 2 ≤ (pns L).length := by rw [HLN.out]; omega
            have B2 : dropB (pns L) (sN : Int) [(i : Int), (k : Int)] = true := dropB_yes HHB.out (okTo_two (by rw [HLN.out]; exact hi) (by rw [HLN.out]; exact hk) hik)
            have B1 : dropB (pns L) (sN : Int) [(k : Int)] = true := dropB_yes HHB.out (okTo_one hmx)
            have S1e := dropS_yes B1 (by omega)
            have S2e := dropS_yes B2 (by omega)
            rw [Int.toNat_natCast] at S1e S2e
            have hDl := dropN_one_len (G := pns L) (a := k) hmx
            have hDh := dropN_holds9 (a := k) HHB.out hmx hn2
            rw [Int.toNat_natCast, ← S1e] at hDh
            have B3 : dropB (dropN (pns L) [(k : Int)] (pns L).length) (dropS (pns L) (sN : Int) [(k : Int)]) [(i : Int)] = true := dropB_yes hDh (okTo_one (by rw [hDl]; omega))
            have A3 : dropA (dropN (pns L) [(k : Int)] (pns L).length) (dropS (pns L) (sN : Int) [(k : Int)]) [(i : Int)] = dropN (pns L) [(i : Int), (k : Int)] (pns L).length := by rw [dropA_yes B3, dropN_steps hm1 (.inl ⟨rfl, rfl⟩) hmx HPOS.out]
            have S3e := dropS_yes B3 (by omega)
            have SEQ : sN ≠ i → sN ≠ k → dropS (dropN (pns L) [(k : Int)] (pns L).length) (dropS (pns L) (sN : Int) [(k : Int)]) [(i : Int)] = dropS (pns L) (sN : Int) [(i : Int), (k : Int)] := fun h1 h2 => by
              have ga : goneAt [(k : Int)] sN = false := by rw [goneAt_one]; exact decide_eq_false (by omega)
              have gb : goneAt [(i : Int), (k : Int)] sN = false := by rw [goneAt_two]; exact decide_eq_false (by omega)
              rw [ga] at S1e
              rw [gb] at S2e
              rw [S3e, S2e, S1e]
              simp only [Bool.false_eq_true, if_false, Int.toNat_natCast]
              rw [gone_steps hm1 (.inl ⟨rfl, rfl⟩) (by omega), gb, toN_steps hm1 (.inl ⟨rfl, rfl⟩) (by omega) (by omega)]
              simp
            have HSEQ := Lib.hid SEQ
            have HDS := Lib.hid (dropN_small9 [(k : Int)] HSM.out hl2)
            have HDO := Lib.hid (dropN_ok9 [(k : Int)] HX.out.ok)
            have HX2 : Hid ((dropN (pns L) [(i : Int), (k : Int)] (pns L).length).length ≤ 20000 ∧ ∀ x ∈ dropN (pns L) [(i : Int), (k : Int)] (pns L).length, x.2.1.length ≤ 20000 ∧ x.2.2.length ≤ 20000) := Lib.hid (by
              have := dropA_small (s := (sN : Int)) (P := [(i : Int), (k : Int)]) HSM.out
              rw [dropA_yes B2] at this; exact this)
            have C3 : Hid (∀ W, Below w7.heap.size w7 W → Calls Try.prog 30 #[.agg #[.slice A L.length c, .int .i64 (sN : Int)], .slice (some ⟨W.heap.size, 0, none⟩) 2 2] (W.alloc (.cells #[.int .i64 (i : Int), .int .i64 (k : Int)] 3)) (GAns (W.alloc (.cells #[.int .i64 (i : Int), .int .i64 (k : Int)] 3)) (dropN (pns L) [(i : Int), (k : Int)] (pns L).length) (dropS (pns L) (sN : Int) [(i : Int), (k : Int)]) 0)) := Lib.hid (fun W h => by
              have hW0 : Below w.heap.size w (W.alloc (.cells #[.int .i64 (i : Int), .int .i64 (k : Int)] 3)) := below_one (HB7.out.trans (h.mono HB7.out.size)) _
              have := drop_any A c L (sN : Int) (some ⟨W.heap.size, 0, none⟩) 2 [(i : Int), (k : Int)] _ (HAR.out.below hW0) HNL.out (lit2_64 W (i : Int) (k : Int)) (by simp)
              rw [B2, dropA_yes B2, show errG true = 0 from rfl] at this
              exact this)
            have C4 : Hid (∀ W, Below w7.heap.size w7 W → Calls Try.prog 30 #[.agg #[.slice A L.length c, .int .i64 (sN : Int)], .slice (some ⟨W.heap.size, 0, none⟩) 1 1] (W.alloc (.cells #[.int .i64 (k : Int)] 3)) (GAns (W.alloc (.cells #[.int .i64 (k : Int)] 3)) (dropN (pns L) [(k : Int)] (pns L).length) (dropS (pns L) (sN : Int) [(k : Int)]) 0)) := Lib.hid (fun W h => by
              have hW0 : Below w.heap.size w (W.alloc (.cells #[.int .i64 (k : Int)] 3)) := below_one (HB7.out.trans (h.mono HB7.out.size)) _
              have := drop_any A c L (sN : Int) (some ⟨W.heap.size, 0, none⟩) 1 [(k : Int)] _ (HAR.out.below hW0) HNL.out (lit1_64 W (k : Int)) (by simp)
              rw [B1, dropA_yes B1, show errG true = 0 from rfl] at this
              exact this)
            have C5 : Hid (∀ (W : World) (A8 : Option Addr) (q8 : Nat) (T8 : List Gn) (base : Nat), OwnG W base A8 q8 T8 → pns T8 = dropN (pns L) [(k : Int)] (pns L).length → Calls Try.prog 30 #[.agg #[.slice A8 T8.length q8, .int .i64 (dropS (pns L) (sN : Int) [(k : Int)])], .slice (some ⟨W.heap.size, 0, none⟩) 1 1] (W.alloc (.cells #[.int .i64 (i : Int)] 3)) (GAns (W.alloc (.cells #[.int .i64 (i : Int)] 3)) (dropN (pns L) [(i : Int), (k : Int)] (pns L).length) (dropS (dropN (pns L) [(k : Int)] (pns L).length) (dropS (pns L) (sN : Int) [(k : Int)]) [(i : Int)]) 0)) := Lib.hid (fun W A8 q8 T8 base ho hv => by
              have hb : Below W.heap.size W (W.alloc (.cells #[.int .i64 (i : Int)] 3)) := below_one (Below.refl _ _) _
              have har : GArg W A8 T8 := ⟨ho.rd, by rw [hv]; exact HDS.out, by rw [hv]; exact HDO.out⟩
              have := drop_any A8 q8 T8 (dropS (pns L) (sN : Int) [(k : Int)]) (some ⟨W.heap.size, 0, none⟩) 1 [(i : Int)] _ (har.below hb) (own_nil8 ho) (lit1_64 W (i : Int)) (by simp)
              rw [hv, B3, A3, show errG true = 0 from rfl] at this
              exact this)
            obtain ⟨X2, eX2⟩ : ∃ X, dropN (pns L) [(i : Int), (k : Int)] (pns L).length = X := ⟨_, rfl⟩
            obtain ⟨D, eD⟩ : ∃ X, dropN (pns L) [(k : Int)] (pns L).length = X := ⟨_, rfl⟩
            obtain ⟨S1, eS1⟩ : ∃ X, dropS (pns L) (sN : Int) [(k : Int)] = X := ⟨_, rfl⟩
            obtain ⟨S2, eS2⟩ : ∃ X, dropS (pns L) (sN : Int) [(i : Int), (k : Int)] = X := ⟨_, rfl⟩
            rw [eX2] at HX2 C3 C5
            rw [eD] at C4 C5 HSEQ
            rw [eS1] at C4 C5 HSEQ
            rw [eS2] at C3 HSEQ
            obtain ⟨S3, eS3⟩ : ∃ X, dropS D S1 [(i : Int)] = X := ⟨_, rfl⟩
            rw [eS3] at C5 HSEQ
            clear B1 B2 B3 A3 S1e S2e S3e SEQ hDl hDh eX2 eD eS1 eS2 eS3 HDS HDO hmx hn2
            go_upto_region 17 with (go_at_call 30; refine (C3.out _ (Below.refl _ _)).mono ?_; rintro e w8 ⟨A8, q8, T8, rfl, o8, v8, b8⟩)
            obtain ⟨w9, ew9⟩ : ∃ w9, w8.alloc (.cells #[.slice A8 T8.length q8, .int .i64 S2] 24) = w9 := ⟨_, rfl⟩
            obtain ⟨x9, ex9⟩ : ∃ x9, w8.heap.size = x9 := ⟨_, rfl⟩
            have b9 : Below w7.heap.size w7 w9 := by rw [← ew9]; exact (below_one (Below.refl _ _) _).trans ((below_one b8 _).mono (by rw [World.size_alloc]; omega))
            have b89 : Below w8.heap.size w8 w9 := by rw [← ew9]; exact below_one (Below.refl _ _) _
            have z9 : Whole w9 x9 24 #[.slice A8 T8.length q8, .int .i64 S2] := by rw [← ew9, ← ex9]; exact Whole.new w8 _ _
            have R8 := Lib.hid ((o8.rd.below b89).more b89.size)
            have V8 := Lib.hid v8
            have Z9 := Lib.hid z9
            have hx97 : w7.heap.size ≤ x9 := by rw [← ex9]; have := b8.size; rw [World.size_alloc] at this; omega
            have P8 := Lib.hid (o8.below b89)
            rw [ew9, ex9]
            clear ew9 ex9 o8 v8 b8 b89 y0 y1 y2 y3 y4 y5
            obtain ⟨⟨y0, y1⟩, ⟨y2, y3⟩, y4, y5⟩ := HC7.out _ b9
            go_upto_region 18 with (go_at_call 30; refine (C4.out _ b9).mono ?_; rintro e wA ⟨AA, qA, TA, rfl, oA, vA, bA⟩)
            obtain ⟨wB, ewB⟩ : ∃ wB, wA.alloc (.cells #[.slice AA TA.length qA, .int .i64 S1] 24) = wB := ⟨_, rfl⟩
            obtain ⟨xB, exB⟩ : ∃ xB, wA.heap.size = xB := ⟨_, rfl⟩
            have bB : Below w9.heap.size w9 wB := by rw [← ewB]; exact (below_one (Below.refl _ _) _).trans ((below_one bA _).mono (by rw [World.size_alloc]; omega))
            have bAB : Below wA.heap.size wA wB := by rw [← ewB]; exact below_one (Below.refl _ _) _
            have zB : Whole wB xB 24 #[.slice AA TA.length qA, .int .i64 S1] := by rw [← ewB, ← exB]; exact Whole.new wA _ _
            have C5B := C5.out wB AA qA TA _ (oA.below bAB) vA
            have v0 := zB.cell 0
            have v1 := zB.cell 1
            have b7B := b9.trans (bB.mono b9.size)
            have ZB := Lib.hid zB
            rw [ewB, exB]
            clear ewB exB oA vA bA bAB y0 y1 y2 y3 y4 y5
            obtain ⟨⟨y0, y1⟩, ⟨y2, y3⟩, y4, y5⟩ := HC7.out _ b7B
            go_upto_region 19 with (go_at_call 30; refine C5B.mono ?_; rintro e wC ⟨AC, qC, TC, rfl, oC, vC, bC⟩)
            obtain ⟨wD, ewD⟩ : ∃ wD, wC.alloc (.cells #[.slice AC TC.length qC, .int .i64 S3] 24) = wD := ⟨_, rfl⟩
            obtain ⟨xD, exD⟩ : ∃ xD, wC.heap.size = xD := ⟨_, rfl⟩
            have bD : Below wB.heap.size wB wD := by rw [← ewD]; exact (below_one (Below.refl _ _) _).trans ((below_one bC _).mono (by rw [World.size_alloc]; omega))
            have bCD : Below wC.heap.size wC wD := by rw [← ewD]; exact below_one (Below.refl _ _) _
            have zD : Whole wD xD 24 #[.slice AC TC.length qC, .int .i64 S3] := by rw [← ewD, ← exD]; exact Whole.new wC _ _
            have b9D := bB.trans (bD.mono bB.size)
            have b7D := b9.trans (b9D.mono b9.size)
            have RC := Lib.hid ((oC.rd.below bCD).more bCD.size)
            have OC := Lib.hid (oC.below bCD)
            have P8D := Lib.hid (P8.out.below b9D)
            have O8 := Lib.hid ((R8.out.below b9D).more b9D.size)
            have VC := Lib.hid vC
            have hzb : wB.heap.size + 1 ≤ xD := by rw [← exD]; have := bC.size; rw [World.size_alloc] at this; exact this
            have hx7D : w7.heap.size ≤ xD := by have := b7B.size; omega
            have hz9 : w9.heap.size ≤ wB.heap.size := bB.size
            have hx9 : x9 < w9.heap.size := Z9.out.lt
            have hne : x9 ≠ xD := by omega
            have zD9 := Z9.out.below b9D Z9.out.lt
            have ZD9 := Lib.hid zD9
            have ZD := Lib.hid zD
            have lC : TC.length ≤ 20000 := by have := pns_len TC; rw [vC] at this; have := HX2.out.1; omega
            have l8 : T8.length ≤ 20000 := by have := pns_len T8; rw [V8.out] at this; have := HX2.out.1; omega
            rw [ewD, exD]
            clear ewD exD oC vC bC bCD v0 v1 y0 y1 y2 y3 y4 y5 C5B bD zB
            obtain ⟨⟨y0, y1⟩, ⟨y2, y3⟩, y4, y5⟩ := HC7.out _ b7D
            have v0 := zD.cell 0
            have v1 := zD.cell 1
            have v2 := zD9.cell 0
            have v3 := zD9.cell 1
            have vf1 := zD.frozen 1
            have vf2 := zD9.frozen 1
            clear zD zD9
            have HBD := Lib.hid b7D
            by_cases h1 : sN = k
            · have g3 : ((sN : Int) == (k : Int)) = true := by rw [h1]; simp
              clear h1
              have bS : Below w7.heap.size w7 ((wD.setCell ⟨x9, 1, none⟩ (.int .i64 0)).setCell ⟨xD, 1, none⟩ (.int .i64 0)) := (HBD.out.setCell (p := ⟨x9, 1, none⟩) hx97 _).setCell (p := ⟨xD, 1, none⟩) hx7D _
              have zDf := ZD.out.far (a := ⟨x9, 1, none⟩) (fun e => hne e.symm) (.int .i64 0)
              have c1' := zDf.cell 1
              have f1' := zDf.frozen 1
              have zE := zDf.set 1 (.int .i64 0)
              have z9f := (ZD9.out.set 1 (.int .i64 0)).far (a := ⟨xD, 1, none⟩) hne (.int .i64 0)
              have r8 := Lib.hid ((P8D.out.far9 ZD9.out 1 (.int .i64 0)).far9 zDf 1 (.int .i64 0)).rd
              have rC := Lib.hid ((OC.out.far9 ZD9.out 1 (.int .i64 0)).far9 zDf 1 (.int .i64 0)).rd
              obtain ⟨wS, ewS⟩ : ∃ wS, (wD.setCell ⟨x9, 1, none⟩ (.int .i64 0)).setCell ⟨xD, 1, none⟩ (.int .i64 0) = wS := ⟨_, rfl⟩
              have HWS := Lib.hid ewS
              rw [ewS] at bS zE z9f r8 rC
              have HSF := Lib.hid (fun W (h : Below wS.heap.size wS W) => sameGraph_any A8 q8 T8 AC qC TC 0 W W.heap.size (Nat.le_refl _) ((r8.out.below h).more h.size) ((rC.out.below h).more h.size) (V8.out.trans VC.out.symm) l8 (by rw [V8.out]; exact HX2.out.2))
              have HE := Lib.hid zE
              have H9 := Lib.hid z9f
              clear zDf zE z9f ewS
              go_upto_region 21 with fail
              rw [HWS.out]
              clear y0 y1 y2 y3 y4 y5 v0 v1 v2 v3 vf1 vf2 c1' f1'
              obtain ⟨⟨y0, y1⟩, ⟨y2, y3⟩, y4, y5⟩ := HC7.out _ bS
              go_wp2_with fail
              refine (HSG.out _ bS).mono ?_
              rintro e wE ⟨rfl, bE⟩
              dsimp only
              have b7E := bS.trans (bE.mono bS.size)
              clear y0 y1 y2 y3 y4 y5
              obtain ⟨⟨y0, y1⟩, ⟨y2, y3⟩, y4, y5⟩ := HC7.out _ b7E
              go_wp2_with fail
              refine (HSN.out _ b7E).mono ?_
              rintro e wF ⟨rfl, bF⟩
              dsimp only
              have bSF := bE.trans (bF.mono bE.size)
              have z1 := HE.out.below bSF HE.out.lt
              have z2 := H9.out.below bSF H9.out.lt
              have v0 : wF.cell? ⟨xD, 0, none⟩ = some (.slice AC TC.length qC) := z1.cell 0
              have v1 : wF.cell? ⟨xD, 1, none⟩ = some (.int .i64 0) := z1.cell 1
              have v2 : wF.cell? ⟨x9, 0, none⟩ = some (.slice A8 T8.length q8) := z2.cell 0
              have v3 : wF.cell? ⟨x9, 1, none⟩ = some (.int .i64 0) := z2.cell 1
              clear z1 z2
              go_wp2_with fail
              refine (HSF.out _ bSF).mono ?_
              rintro e wG ⟨rfl, bG⟩
              dsimp only
              go_wp2
              go_ret
              exact ⟨rfl, HB7.out.trans ((bS.trans ((bSF.trans (bG.mono bSF.size)).mono bS.size)).mono HB7.out.size)⟩
            · have g3 : ((sN : Int) == (k : Int)) = false := by rw [beq_eq_false_iff_ne]; omega
              by_cases h2 : sN = i
              · have g4 : ((sN : Int) == (i : Int)) = true := by rw [h2]; simp
                clear h2
                have bS : Below w7.heap.size w7 ((wD.setCell ⟨x9, 1, none⟩ (.int .i64 0)).setCell ⟨xD, 1, none⟩ (.int .i64 0)) := (HBD.out.setCell (p := ⟨x9, 1, none⟩) hx97 _).setCell (p := ⟨xD, 1, none⟩) hx7D _
                have zDf := ZD.out.far (a := ⟨x9, 1, none⟩) (fun e => hne e.symm) (.int .i64 0)
                have c1' := zDf.cell 1
                have f1' := zDf.frozen 1
                have zE := zDf.set 1 (.int .i64 0)
                have z9f := (ZD9.out.set 1 (.int .i64 0)).far (a := ⟨xD, 1, none⟩) hne (.int .i64 0)
                have r8 := Lib.hid ((P8D.out.far9 ZD9.out 1 (.int .i64 0)).far9 zDf 1 (.int .i64 0)).rd
                have rC := Lib.hid ((OC.out.far9 ZD9.out 1 (.int .i64 0)).far9 zDf 1 (.int .i64 0)).rd
                obtain ⟨wS, ewS⟩ : ∃ wS, (wD.setCell ⟨x9, 1, none⟩ (.int .i64 0)).setCell ⟨xD, 1, none⟩ (.int .i64 0) = wS := ⟨_, rfl⟩
                have HWS := Lib.hid ewS
                rw [ewS] at bS zE z9f r8 rC
                have HSF := Lib.hid (fun W (h : Below wS.heap.size wS W) => sameGraph_any A8 q8 T8 AC qC TC 0 W W.heap.size (Nat.le_refl _) ((r8.out.below h).more h.size) ((rC.out.below h).more h.size) (V8.out.trans VC.out.symm) l8 (by rw [V8.out]; exact HX2.out.2))
                have HE := Lib.hid zE
                have H9 := Lib.hid z9f
                clear zDf zE z9f ewS
                go_upto_region 21 with fail
                rw [HWS.out]
                clear y0 y1 y2 y3 y4 y5 v0 v1 v2 v3 vf1 vf2 c1' f1'
                obtain ⟨⟨y0, y1⟩, ⟨y2, y3⟩, y4, y5⟩ := HC7.out _ bS
                go_wp2_with fail
                refine (HSG.out _ bS).mono ?_
                rintro e wE ⟨rfl, bE⟩
                dsimp only
                have b7E := bS.trans (bE.mono bS.size)
                clear y0 y1 y2 y3 y4 y5
                obtain ⟨⟨y0, y1⟩, ⟨y2, y3⟩, y4, y5⟩ := HC7.out _ b7E
                go_wp2_with fail
                refine (HSN.out _ b7E).mono ?_
                rintro e wF ⟨rfl, bF⟩
                dsimp only
                have bSF := bE.trans (bF.mono bE.size)
                have z1 := HE.out.below bSF HE.out.lt
                have z2 := H9.out.below bSF H9.out.lt
                have v0 : wF.cell? ⟨xD, 0, none⟩ = some (.slice AC TC.length qC) := z1.cell 0
                have v1 : wF.cell? ⟨xD, 1, none⟩ = some (.int .i64 0) := z1.cell 1
                have v2 : wF.cell? ⟨x9, 0, none⟩ = some (.slice A8 T8.length q8) := z2.cell 0
                have v3 : wF.cell? ⟨x9, 1, none⟩ = some (.int .i64 0) := z2.cell 1
                clear z1 z2
                go_wp2_with fail
                refine (HSF.out _ bSF).mono ?_
                rintro e wG ⟨rfl, bG⟩
                dsimp only
                go_wp2
                go_ret
                exact ⟨rfl, HB7.out.trans ((bS.trans ((bSF.trans (bG.mono bSF.size)).mono bS.size)).mono HB7.out.size)⟩
              · have g4 : ((sN : Int) == (i : Int)) = false := by rw [beq_eq_false_iff_ne]; omega
                have hS := HSEQ.out (by omega) (by omega)
                subst hS
                have HSF := Lib.hid (fun W (h : Below wD.heap.size wD W) => sameGraph_any A8 q8 T8 AC qC TC S3 W W.heap.size (Nat.le_refl _) ((O8.out.below h).more h.size) ((RC.out.below h).more h.size) (V8.out.trans VC.out.symm) l8 (by rw [V8.out]; exact HX2.out.2))
                go_wp2_with fail
                refine (HSG.out _ HBD.out).mono ?_
                rintro e wE ⟨rfl, bE⟩
                dsimp only
                have b7E := HBD.out.trans (bE.mono HBD.out.size)
                clear y0 y1 y2 y3 y4 y5 v0 v1 v2 v3
                obtain ⟨⟨y0, y1⟩, ⟨y2, y3⟩, y4, y5⟩ := HC7.out _ b7E
                go_wp2_with fail
                refine (HSN.out _ b7E).mono ?_
                rintro e wF ⟨rfl, bF⟩
                dsimp only
                have bDF := bE.trans (bF.mono bE.size)
                have z1 := ZD.out.below bDF ZD.out.lt
                have z2 := ZD9.out.below bDF ZD9.out.lt
                have v0 := z1.cell 0
                have v1 := z1.cell 1
                have v2 := z2.cell 0
                have v3 := z2.cell 1
                clear z1 z2
                go_wp2_with fail
                refine (HSF.out _ bDF).mono ?_
                rintro e wG ⟨rfl, bG⟩
                dsimp only
                go_wp2
                go_ret
                exact ⟨rfl, HB7.out.trans ((HBD.out.trans ((bDF.trans (bG.mono bDF.size)).mono HBD.out.size)).mono HB7.out.size)⟩
          · have hm1 : k < i := hlt
            have g1 : decide ((i : Int) < (k : Int)) = false := decide_eq_false (by omega)
            have g2 : decide ((k : Int) < (i : Int)) = true := decide_eq_true (by omega)
            have hmx : i < (pns L).length := by rw [HLN.out]; omega
            have hn2 : 2 ≤ (pns L).length := by rw [HLN.out]; omega
            have B2 : dropB (pns L) (sN : Int) [(i : Int), (k : Int)] = true := dropB_yes HHB.out (okTo_two (by rw [HLN.out]; exact hi) (by rw [HLN.out]; exact hk) hik)
            have B1 : dropB (pns L) (sN : Int) [(i : Int)] = true := dropB_yes HHB.out (okTo_one hmx)
            have S1e := dropS_yes B1 (by omega)
            have S2e := dropS_yes B2 (by omega)
            rw [Int.toNat_natCast] at S1e S2e
            have hDl := dropN_one_len (G := pns L) (a := i) hmx
            have hDh := dropN_holds9 (a := i) HHB.out hmx hn2
            rw [Int.toNat_natCast, ← S1e] at hDh
            have B3 : dropB (dropN (pns L) [(i : Int)] (pns L).length) (dropS (pns L) (sN : Int) [(i : Int)]) [(k : Int)] = true := dropB_yes hDh (okTo_one (by rw [hDl]; omega))
            have A3 : dropA (dropN (pns L) [(i : Int)] (pns L).length) (dropS (pns L) (sN : Int) [(i : Int)]) [(k : Int)] = dropN (pns L) [(i : Int), (k : Int)] (pns L).length := by rw [dropA_yes B3, dropN_steps hm1 (.inr ⟨rfl, rfl⟩) hmx HPOS.out]
            have S3e := dropS_yes B3 (by omega)
            have SEQ : sN ≠ i → sN ≠ k → dropS (dropN (pns L) [(i : Int)] (pns L).length) (dropS (pns L) (sN : Int) [(i : Int)]) [(k : Int)] = dropS (pns L) (sN : Int) [(i : Int), (k : Int)] := fun h1 h2 => by
              have ga : goneAt [(i : Int)] sN = false := by rw [goneAt_one]; exact decide_eq_false (by omega)
              have gb : goneAt [(i : Int), (k : Int)] sN = false := by rw [goneAt_two]; exact decide_eq_false (by omega)
              rw [ga] at S1e
              rw [gb] at S2e
              rw [S3e, S2e, S1e]
              simp only [Bool.false_eq_true, if_false, Int.toNat_natCast]
              rw [gone_steps hm1 (.inr ⟨rfl, rfl⟩) (by omega), gb, toN_steps hm1 (.inr ⟨rfl, rfl⟩) (by omega) (by omega)]
              simp
            have HSEQ := Lib.hid SEQ
            have HDS := Lib.hid (dropN_small9 [(i : Int)] HSM.out hl2)
            have HDO := Lib.hid (dropN_ok9 [(i : Int)] HX.out.ok)
            have HX2 : Hid ((dropN (pns L) [(i : Int), (k : Int)] (pns L).length).length ≤ 20000 ∧ ∀ x ∈ dropN (pns L) [(i : Int), (k : Int)] (pns L).length, x.2.1.length ≤ 20000 ∧ x.2.2.length ≤ 20000) := Lib.hid (by
              have := dropA_small (s := (sN : Int)) (P := [(i : Int), (k : Int)]) HSM.out
              rw [dropA_yes B2] at this; exact this)
            have C3 : Hid (∀ W, Below w7.heap.size w7 W → Calls Try.prog 30 #[.agg #[.slice A L.length c, .int .i64 (sN : Int)], .slice (some ⟨W.heap.size, 0, none⟩) 2 2] (W.alloc (.cells #[.int .i64 (i : Int), .int .i64 (k : Int)] 3)) (GAns (W.alloc (.cells #[.int .i64 (i : Int), .int .i64 (k : Int)] 3)) (dropN (pns L) [(i : Int), (k : Int)] (pns L).length) (dropS (pns L) (sN : Int) [(i : Int), (k : Int)]) 0)) := Lib.hid (fun W h => by
              have hW0 : Below w.heap.size w (W.alloc (.cells #[.int .i64 (i : Int), .int .i64 (k : Int)] 3)) := below_one (HB7.out.trans (h.mono HB7.out.size)) _
              have := drop_any A c L (sN : Int) (some ⟨W.heap.size, 0, none⟩) 2 [(i : Int), (k : Int)] _ (HAR.out.below hW0) HNL.out (lit2_64 W (i : Int) (k : Int)) (by simp)
              rw [B2, dropA_yes B2, show errG true = 0 from rfl] at this
              exact this)
            have C4 : Hid (∀ W, Below w7.heap.size w7 W → Calls Try.prog 30 #[.agg #[.slice A L.length c, .int .i64 (sN : Int)], .slice (some ⟨W.heap.size, 0, none⟩) 1 1] (W.alloc (.cells #[.int .i64 (i : Int)] 3)) (GAns (W.alloc (.cells #[.int .i64 (i : Int)] 3)) (dropN (pns L) [(i : Int)] (pns L).length) (dropS (pns L) (sN : Int) [(i : Int)]) 0)) := Lib.hid (fun W h => by
              have hW0 : Below w.heap.size w (W.alloc (.cells #[.int .i64 (i : Int)] 3)) := below_one (HB7.out.trans (h.mono HB7.out.size)) _
              have := drop_any A c L (sN : Int) (some ⟨W.heap.size, 0, none⟩) 1 [(i : Int)] _ (HAR.out.below hW0) HNL.out (lit1_64 W (i : Int)) (by simp)
              rw [B1, dropA_yes B1, show errG true = 0 from rfl] at this
              exact this)
            have C5 : Hid (∀ (W : World) (A8 : Option Addr) (q8 : Nat) (T8 : List Gn) (base : Nat), OwnG W base A8 q8 T8 → pns T8 = dropN (pns L) [(i : Int)] (pns L).length → Calls Try.prog 30 #[.agg #[.slice A8 T8.length q8, .int .i64 (dropS (pns L) (sN : Int) [(i : Int)])], .slice (some ⟨W.heap.size, 0, none⟩) 1 1] (W.alloc (.cells #[.int .i64 (k : Int)] 3)) (GAns (W.alloc (.cells #[.int .i64 (k : Int)] 3)) (dropN (pns L) [(i : Int), (k : Int)] (pns L).length) (dropS (dropN (pns L) [(i : Int)] (pns L).length) (dropS (pns L) (sN : Int) [(i : Int)]) [(k : Int)]) 0)) := Lib.hid (fun W A8 q8 T8 base ho hv => by
              have hb : Below W.heap.size W (W.alloc (.cells #[.int .i64 (k : Int)] 3)) := below_one (Below.refl _ _) _
              have har : GArg W A8 T8 := ⟨ho.rd, by rw [hv]; exact HDS.out, by rw [hv]; exact HDO.out⟩
              have := drop_any A8 q8 T8 (dropS (pns L) (sN : Int) [(i : Int)]) (some ⟨W.heap.size, 0, none⟩) 1 [(k : Int)] _ (har.below hb) (own_nil8 ho) (lit1_64 W (k : Int)) (by simp)
              rw [hv, B3, A3, show errG true = 0 from rfl] at this
              exact this)
            obtain ⟨X2, eX2⟩ : ∃ X, dropN (pns L) [(i : Int), (k : Int)] (pns L).length = X := ⟨_, rfl⟩
            obtain ⟨D, eD⟩ : ∃ X, dropN (pns L) [(i : Int)] (pns L).length = X := ⟨_, rfl⟩
            obtain ⟨S1, eS1⟩ : ∃ X, dropS (pns L) (sN : Int) [(i : Int)] = X := ⟨_, rfl⟩
            obtain ⟨S2, eS2⟩ : ∃ X, dropS (pns L) (sN : Int) [(i : Int), (k : Int)] = X := ⟨_, rfl⟩
            rw [eX2] at HX2 C3 C5
            rw [eD] at C4 C5 HSEQ
            rw [eS1] at C4 C5 HSEQ
            rw [eS2] at C3 HSEQ
            obtain ⟨S3, eS3⟩ : ∃ X, dropS D S1 [(k : Int)] = X := ⟨_, rfl⟩
            rw [eS3] at C5 HSEQ
            clear B1 B2 B3 A3 S1e S2e S3e SEQ hDl hDh eX2 eD eS1 eS2 eS3 HDS HDO hmx hn2
            go_upto_region 17 with (go_at_call 30; refine (C3.out _ (Below.refl _ _)).mono ?_; rintro e w8 ⟨A8, q8, T8, rfl, o8, v8, b8⟩)
            obtain ⟨w9, ew9⟩ : ∃ w9, w8.alloc (.cells #[.slice A8 T8.length q8, .int .i64 S2] 24) = w9 := ⟨_, rfl⟩
            obtain ⟨x9, ex9⟩ : ∃ x9, w8.heap.size = x9 := ⟨_, rfl⟩
            have b9 : Below w7.heap.size w7 w9 := by rw [← ew9]; exact (below_one (Below.refl _ _) _).trans ((below_one b8 _).mono (by rw [World.size_alloc]; omega))
            have b89 : Below w8.heap.size w8 w9 := by rw [← ew9]; exact below_one (Below.refl _ _) _
            have z9 : Whole w9 x9 24 #[.slice A8 T8.length q8, .int .i64 S2] := by rw [← ew9, ← ex9]; exact Whole.new w8 _ _
            have R8 := Lib.hid ((o8.rd.below b89).more b89.size)
            have V8 := Lib.hid v8
            have Z9 := Lib.hid z9
            have hx97 : w7.heap.size ≤ x9 := by rw [← ex9]; have := b8.size; rw [World.size_alloc] at this; omega
            have P8 := Lib.hid (o8.below b89)
            rw [ew9, ex9]
            clear ew9 ex9 o8 v8 b8 b89 y0 y1 y2 y3 y4 y5
            obtain ⟨⟨y0, y1⟩, ⟨y2, y3⟩, y4, y5⟩ := HC7.out _ b9
            go_upto_region 18 with (go_at_call 30; refine (C4.out _ b9).mono ?_; rintro e wA ⟨AA, qA, TA, rfl, oA, vA, bA⟩)
            obtain ⟨wB, ewB⟩ : ∃ wB, wA.alloc (.cells #[.slice AA TA.length qA, .int .i64 S1] 24) = wB := ⟨_, rfl⟩
            obtain ⟨xB, exB⟩ : ∃ xB, wA.heap.size = xB := ⟨_, rfl⟩
            have bB : Below w9.heap.size w9 wB := by rw [← ewB]; exact (below_one (Below.refl _ _) _).trans ((below_one bA _).mono (by rw [World.size_alloc]; omega))
            have bAB : Below wA.heap.size wA wB := by rw [← ewB]; exact below_one (Below.refl _ _) _
            have zB : Whole wB xB 24 #[.slice AA TA.length qA, .int .i64 S1] := by rw [← ewB, ← exB]; exact Whole.new wA _ _
            have C5B := C5.out wB AA qA TA _ (oA.below bAB) vA
            have v0 := zB.cell 0
            have v1 := zB.cell 1
            have b7B := b9.trans (bB.mono b9.size)
            have ZB := Lib.hid zB
            rw [ewB, exB]
            clear ewB exB oA vA bA bAB y0 y1 y2 y3 y4 y5
            obtain ⟨⟨y0, y1⟩, ⟨y2, y3⟩, y4, y5⟩ := HC7.out _ b7B
            go_upto_region 19 with (go_at_call 30; refine C5B.mono ?_; rintro e wC ⟨AC, qC, TC, rfl, oC, vC, bC⟩)
            obtain ⟨wD, ewD⟩ : ∃ wD, wC.alloc (.cells #[.slice AC TC.length qC, .int .i64 S3] 24) = wD := ⟨_, rfl⟩
            obtain ⟨xD, exD⟩ : ∃ xD, wC.heap.size = xD := ⟨_, rfl⟩
            have bD : Below wB.heap.size wB wD := by rw [← ewD]; exact (below_one (Below.refl _ _) _).trans ((below_one bC _).mono (by rw [World.size_alloc]; omega))
            have bCD : Below wC.heap.size wC wD := by rw [← ewD]; exact below_one (Below.refl _ _) _
            have zD : Whole wD xD 24 #[.slice AC TC.length qC, .int .i64 S3] := by rw [← ewD, ← exD]; exact Whole.new wC _ _
            have b9D := bB.trans (bD.mono bB.size)
            have b7D := b9.trans (b9D.mono b9.size)
            have RC := Lib.hid ((oC.rd.below bCD).more bCD.size)
            have OC := Lib.hid (oC.below bCD)
            have P8D := Lib.hid (P8.out.below b9D)
            have O8 := Lib.hid ((R8.out.below b9D).more b9D.size)
            have VC := Lib.hid vC
            have hzb : wB.heap.size + 1 ≤ xD := by rw [← exD]; have := bC.size; rw [World.size_alloc] at this; exact this
            have hx7D : w7.heap.size ≤ xD := by have := b7B.size; omega
            have hz9 : w9.heap.size ≤ wB.heap.size := bB.size
            have hx9 : x9 < w9.heap.size := Z9.out.lt
            have hne : x9 ≠ xD := by omega
            have zD9 := Z9.out.below b9D Z9.out.lt
            have ZD9 := Lib.hid zD9
            have ZD := Lib.hid zD
            have lC : TC.length ≤ 20000 := by have := pns_len TC; rw [vC] at this; have := HX2.out.1; omega
            have l8 : T8.length ≤ 20000 := by have := pns_len T8; rw [V8.out] at this; have := HX2.out.1; omega
            rw [ewD, exD]
            clear ewD exD oC vC bC bCD v0 v1 y0 y1 y2 y3 y4 y5 C5B bD zB
            obtain ⟨⟨y0, y1⟩, ⟨y2, y3⟩, y4, y5⟩ := HC7.out _ b7D
            have v0 := zD.cell 0
            have v1 := zD.cell 1
            have v2 := zD9.cell 0
            have v3 := zD9.cell 1
            have vf1 := zD.frozen 1
            have vf2 := zD9.frozen 1
            clear zD zD9
            have HBD := Lib.hid b7D
            by_cases h1 : sN = i
            · have g3 : ((sN : Int) == (i : Int)) = true := by rw [h1]; simp
              clear h1
              have bS : Below w7.heap.size w7 ((wD.setCell ⟨x9, 1, none⟩ (.int .i64 0)).setCell ⟨xD, 1, none⟩ (.int .i64 0)) := (HBD.out.setCell (p := ⟨x9, 1, none⟩) hx97 _).setCell (p := ⟨xD, 1, none⟩) hx7D _
              have zDf := ZD.out.far (a := ⟨x9, 1, none⟩) (fun e => hne e.symm) (.int .i64 0)
              have c1' := zDf.cell 1
              have f1' := zDf.frozen 1
              have zE := zDf.set 1 (.int .i64 0)
              have z9f := (ZD9.out.set 1 (.int .i64 0)).far (a := ⟨xD, 1, none⟩) hne (.int .i64 0)
              have r8 := Lib.hid ((P8D.out.far9 ZD9.out 1 (.int .i64 0)).far9 zDf 1 (.int .i64 0)).rd
              have rC := Lib.hid ((OC.out.far9 ZD9.out 1 (.int .i64 0)).far9 zDf 1 (.int .i64 0)).rd
              obtain ⟨wS, ewS⟩ : ∃ wS, (wD.setCell ⟨x9, 1, none⟩ (.int .i64 0)).setCell ⟨xD, 1, none⟩ (.int .i64 0) = wS := ⟨_, rfl⟩
              have HWS := Lib.hid ewS
              rw [ewS] at bS zE z9f r8 rC
              have HSF := Lib.hid (fun W (h : Below wS.heap.size wS W) => sameGraph_any A8 q8 T8 AC qC TC 0 W W.heap.size (Nat.le_refl _) ((r8.out.below h).more h.size) ((rC.out.below h).more h.size) (V8.out.trans VC.out.symm) l8 (by rw [V8.out]; exact HX2.out.2))
              have HE := Lib.hid zE
              have H9 := Lib.hid z9f
              clear zDf zE z9f ewS
              go_upto_region 21 with fail
              rw [HWS.out]
              clear y0 y1 y2 y3 y4 y5 v0 v1 v2 v3 vf1 vf2 c1' f1'
              obtain ⟨⟨y0, y1⟩, ⟨y2, y3⟩, y4, y5⟩ := HC7.out _ bS
              go_wp2_with fail
              refine (HSG.out _ bS).mono ?_
              rintro e wE ⟨rfl, bE⟩
              dsimp only
              have b7E := bS.trans (bE.mono bS.size)
              clear y0 y1 y2 y3 y4 y5
              obtain ⟨⟨y0, y1⟩, ⟨y2, y3⟩, y4, y5⟩ := HC7.out _ b7E
              go_wp2_with fail
              refine (HSN.out _ b7E).mono ?_
              rintro e wF ⟨rfl, bF⟩
              dsimp only
              have bSF := bE.trans (bF.mono bE.size)
              have z1 := HE.out.below bSF HE.out.lt
              have z2 := H9.out.below bSF H9.out.lt
              have v0 : wF.cell? ⟨xD, 0, none⟩ = some (.slice AC TC.length qC) := z1.cell 0
              have v1 : wF.cell? ⟨xD, 1, none⟩ = some (.int .i64 0) := z1.cell 1
              have v2 : wF.cell? ⟨x9, 0, none⟩ = some (.slice A8 T8.length q8) := z2.cell 0
              have v3 : wF.cell? ⟨x9, 1, none⟩ = some (.int .i64 0) := z2.cell 1
              clear z1 z2
              go_wp2_with fail
              refine (HSF.out _ bSF).mono ?_
              rintro e wG ⟨rfl, bG⟩
              dsimp only
              go_wp2
              go_ret
              exact ⟨rfl, HB7.out.trans ((bS.trans ((bSF.trans (bG.mono bSF.size)).mono bS.size)).mono HB7.out.size)⟩
            · have g3 : ((sN : Int) == (i : Int)) = false := by rw [beq_eq_false_iff_ne]; omega
              by_cases h2 : sN = k
              · have g4 : ((sN : Int) == (k : Int)) = true := by rw [h2]; simp
                clear h2
                have bS : Below w7.heap.size w7 ((wD.setCell ⟨x9, 1, none⟩ (.int .i64 0)).setCell ⟨xD, 1, none⟩ (.int .i64 0)) := (HBD.out.setCell (p := ⟨x9, 1, none⟩) hx97 _).setCell (p := ⟨xD, 1, none⟩) hx7D _
                have zDf := ZD.out.far (a := ⟨x9, 1, none⟩) (fun e => hne e.symm) (.int .i64 0)
                have c1' := zDf.cell 1
                have f1' := zDf.frozen 1
                have zE := zDf.set 1 (.int .i64 0)
                have z9f := (ZD9.out.set 1 (.int .i64 0)).far (a := ⟨xD, 1, none⟩) hne (.int .i64 0)
                have r8 := Lib.hid ((P8D.out.far9 ZD9.out 1 (.int .i64 0)).far9 zDf 1 (.int .i64 0)).rd
                have rC := Lib.hid ((OC.out.far9 ZD9.out 1 (.int .i64 0)).far9 zDf 1 (.int .i64 0)).rd
                obtain ⟨wS, ewS⟩ : ∃ wS, (wD.setCell ⟨x9, 1, none⟩ (.int .i64 0)).setCell ⟨xD, 1, none⟩ (.int .i64 0) = wS := ⟨_, rfl⟩
                have HWS := Lib.hid ewS
                rw [ewS] at bS zE z9f r8 rC
                have HSF := Lib.hid (fun W (h : Below wS.heap.size wS W) => sameGraph_any A8 q8 T8 AC qC TC 0 W W.heap.size (Nat.le_refl _) ((r8.out.below h).more h.size) ((rC.out.below h).more h.size) (V8.out.trans VC.out.symm) l8 (by rw [V8.out]; exact HX2.out.2))
                have HE := Lib.hid zE
                have H9 := Lib.hid z9f
                clear zDf zE z9f ewS
                go_upto_region 21 with fail
                rw [HWS.out]
                clear y0 y1 y2 y3 y4 y5 v0 v1 v2 v3 vf1 vf2 c1' f1'
                obtain ⟨⟨y0, y1⟩, ⟨y2, y3⟩, y4, y5⟩ := HC7.out _ bS
                go_wp2_with fail
                refine (HSG.out _ bS).mono ?_
                rintro e wE ⟨rfl, bE⟩
                dsimp only
                have b7E := bS.trans (bE.mono bS.size)
                clear y0 y1 y2 y3 y4 y5
                obtain ⟨⟨y0, y1⟩, ⟨y2, y3⟩, y4, y5⟩ := HC7.out _ b7E
                go_wp2_with fail
                refine (HSN.out _ b7E).mono ?_
                rintro e wF ⟨rfl, bF⟩
                dsimp only
                have bSF := bE.trans (bF.mono bE.size)
                have z1 := HE.out.below bSF HE.out.lt
                have z2 := H9.out.below bSF H9.out.lt
                have v0 : wF.cell? ⟨xD, 0, none⟩ = some (.slice AC TC.length qC) := z1.cell 0
                have v1 : wF.cell? ⟨xD, 1, none⟩ = some (.int .i64 0) := z1.cell 1
                have v2 : wF.cell? ⟨x9, 0, none⟩ = some (.slice A8 T8.length q8) := z2.cell 0
                have v3 : wF.cell? ⟨x9, 1, none⟩ = some (.int .i64 0) := z2.cell 1
                clear z1 z2
                go_wp2_with fail
                refine (HSF.out _ bSF).mono ?_
                rintro e wG ⟨rfl, bG⟩
                dsimp only
                go_wp2
                go_ret
                exact ⟨rfl, HB7.out.trans ((bS.trans ((bSF.trans (bG.mono bSF.size)).mono bS.size)).mono HB7.out.size)⟩
              · have g4 : ((sN : Int) == (k : Int)) = false := by rw [beq_eq_false_iff_ne]; omega
                have hS := HSEQ.out (by omega) (by omega)
                subst hS
                have HSF := Lib.hid (fun W (h : Below wD.heap.size wD W) => sameGraph_any A8 q8 T8 AC qC TC S3 W W.heap.size (Nat.le_refl _) ((O8.out.below h).more h.size) ((RC.out.below h).more h.size) (V8.out.trans VC.out.symm) l8 (by rw [V8.out]; exact HX2.out.2))
                go_wp2_with fail
                refine (HSG.out _ HBD.out).mono ?_
                rintro e wE ⟨rfl, bE⟩
                dsimp only
                have b7E := HBD.out.trans (bE.mono HBD.out.size)
                clear y0 y1 y2 y3 y4 y5 v0 v1 v2 v3
                obtain ⟨⟨y0, y1⟩, ⟨y2, y3⟩, y4, y5⟩ := HC7.out _ b7E
                go_wp2_with fail
                refine (HSN.out _ b7E).mono ?_
                rintro e wF ⟨rfl, bF⟩
                dsimp only
                have bDF := bE.trans (bF.mono bE.size)
                have z1 := ZD.out.below bDF ZD.out.lt
                have z2 := ZD9.out.below bDF ZD9.out.lt
                have v0 := z1.cell 0
                have v1 := z1.cell 1
                have v2 := z2.cell 0
                have v3 := z2.cell 1
                clear z1 z2
                go_wp2_with fail
                refine (HSF.out _ bDF).mono ?_
                rintro e wG ⟨rfl, bG⟩
                dsimp only
                go_wp2
                go_ret
                exact ⟨rfl, HB7.out.trans ((HBD.out.trans ((bDF.trans (bG.mono bDF.size)).mono HBD.out.size)).mono HB7.out.size)⟩
end Go.Proofs.Ytjihnkoimbcfnaa
