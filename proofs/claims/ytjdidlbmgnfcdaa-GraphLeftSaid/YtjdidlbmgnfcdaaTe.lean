/- GraphLeft: what is left of a graph (mathematics), and the walk. -/
import Derived.Test.YtjdidlbmgnfcdaaAl
import Derived.Test.YtjdidlbmgnfcdaaLg
import Derived.BigQuiet
import Derived.IntWalk
import Derived.Deep.RegionHeld3
namespace Go.Proofs.Ytjdidlbmgnfcdaa
open Go.RowKit
set_option linter.unusedVariables false
set_option linter.unusedSimpArgs false

structure Chk (G : List Pn) (s d deg b n m : Int) : Prop where
  su : setupB d deg b n m = true
  ho : Holds G s
  nd : ∀ i, i < G.length → NodeOk G d deg i
theorem checkB_yes {G : List Pn} {s d deg b n m : Int} (h : checkB G s d deg b n m = true) : Chk G s d deg b n m := by
  unfold checkB at h
  simp only [Bool.and_eq_true] at h
  exact ⟨h.1, holdsB_yes h.2.1, of_decide_eq_true h.2.2⟩
theorem checkB_of {G : List Pn} {s d deg b n m : Int} (h : Chk G s d deg b n m) : checkB G s d deg b n m = true := by
  unfold checkB
  rw [h.su, show holdsB G s = true from decide_eq_true h.ho, decide_eq_true h.nd]; rfl
theorem keepO_mem {P o : List Int} {t : Int} (h : t ∈ keepO P o) : ∃ p ∈ o, goneAt P p.toNat = false ∧ t = ((toN P p.toNat : Nat) : Int) := by
  unfold keepO at h
  obtain ⟨p, hp, rfl⟩ := List.mem_map.1 h
  have := List.mem_filter.1 hp
  exact ⟨p, this.1, by simpa using this.2, rfl⟩
theorem drop_sz (G : List Pn) (P : List Int) : ∀ k, k ≤ G.length → ((dropN G P k).map szN).sum ≤ ((G.take k).map szN).sum
  | 0, _ => Nat.zero_le _
  | k + 1, hk => by
    have ih := drop_sz G P k (by omega)
    have e : G.take (k + 1) = G.take k ++ [nAt G k] := by
      rw [List.take_add_one, List.getElem?_eq_getElem (by omega), nAt_get (List.getElem?_eq_getElem (by omega : k < G.length))]; rfl
    rw [e, List.map_append, List.sum_append]
    cases hg : goneAt P k with
    | true => rw [dropN_yes hg]; omega
    | false =>
      rw [dropN_no hg, List.map_append, List.sum_append]
      have : szN (dropNode P (nAt G k)) ≤ szN (nAt G k) := by
        unfold szN dropNode
        have := keepO_len P (nAt G k).2.2
        show (nAt G k).2.1.length + (keepO P (nAt G k).2.2).length ≤ _
        omega
      simp only [List.map_cons, List.map_nil, List.sum_cons, List.sum_nil]
      omega
theorem dropN_small9 {G : List Pn} (P : List Int) (h : GSmall G) (hl : G.length ≤ 2048) : GSmall (dropN G P G.length) := by
  have h1 := drop_sz G P G.length (Nat.le_refl _)
  rw [List.take_length] at h1
  have h2 : (dropN G P G.length).length ≤ G.length := by rw [dropN_len]; exact toN_le _ _
  have h3 := h.1
  have h4 := h.2
  unfold szG at h3
  exact ⟨by unfold szG; omega, .inl (by omega)⟩
theorem dropN_ok9 {G : List Pn} (P : List Int) (h : ∀ x ∈ G, PnOk x) : ∀ x ∈ dropN G P G.length, PnOk x := fun x hx => by
  obtain ⟨i, hi, rfl⟩ := dropN_mem hx
  obtain ⟨h1, h2, h3⟩ := h _ (nAt_mem hi)
  refine ⟨h1, h2, fun t ht => ?_⟩
  obtain ⟨p, hp, _, rfl⟩ := keepO_mem ht
  have := h3 p hp
  have := toN_le P p.toNat
  omega
theorem dropS_if {G : List Pn} {s : Int} {P : List Int} (h : dropB G s P = true) : dropS G s P = if 0 < G.length ∧ goneAt P s.toNat = false then ((toN P s.toNat : Nat) : Int) else 0 := by
  unfold dropS
  rw [h]
  by_cases h0 : 0 < G.length
  · cases hg : goneAt P s.toNat <;> simp [h0]
  · simp [h0]
/-- How far the last one found lies: ahead of the next one that stays. -/
def LastIs (P : List Int) (n k : Nat) (a : Int) : Prop := -1 ≤ a ∧ a < 4611686018427387904 ∧ ∀ p, p < n → goneAt P p = false → toN P p = k → a < (p : Int)
/-- The places that stay, one by one. -/
def kI (P : List Int) (n : Nat) : List Nat := (List.range n).filter fun i => !goneAt P i
theorem kI_succ (P : List Int) (n : Nat) : kI P (n + 1) = kI P n ++ (if goneAt P n then [] else [n]) := by
  unfold kI; rw [List.range_succ, List.filter_append]
  cases h : goneAt P n <;> simp [h]
theorem kI_len (P : List Int) (n : Nat) : (kI P n).length = toN P n := rfl
theorem toN_mono (P : List Int) {i : Nat} : ∀ {j : Nat}, i ≤ j → toN P i ≤ toN P j
  | 0, h => by rw [show i = 0 by omega]; exact Nat.le_refl _
  | j + 1, h => by
    by_cases e : i = j + 1
    · rw [e]; exact Nat.le_refl _
    · have := toN_mono P (i := i) (j := j) (by omega)
      cases g : goneAt P j with
      | true => rw [toN_yes g]; exact this
      | false => rw [toN_no g]; omega
theorem toN_lt {P : List Int} {p q : Nat} (hg : goneAt P p = false) (h : p < q) : toN P p < toN P q := by
  have := toN_mono P (i := p + 1) (j := q) h
  rw [toN_no hg] at this; omega
theorem kI_at {P : List Int} {p : Nat} (hg : goneAt P p = false) : ∀ {n : Nat}, p < n → (kI P n)[toN P p]? = some p
  | 0, h => absurd h (Nat.not_lt_zero _)
  | n + 1, h => by
    rw [kI_succ]
    by_cases e : p = n
    · subst e
      rw [List.getElem?_append_right (by rw [kI_len]; exact Nat.le_refl _), kI_len, hg]; simp
    · have := toN_lt (q := n) hg (by omega)
      rw [List.getElem?_append_left (by rw [kI_len]; exact this)]
      exact kI_at hg (by omega)
theorem kI_ex {P : List Int} {i : Nat} : ∀ {n : Nat}, i < toN P n → ∃ p, p < n ∧ goneAt P p = false ∧ toN P p = i
  | 0, h => absurd h (by rw [toN_zero]; exact Nat.not_lt_zero _)
  | n + 1, h => by
    cases g : goneAt P n with
    | true =>
      rw [toN_yes g] at h
      obtain ⟨p, h1, h2⟩ := kI_ex h
      exact ⟨p, by omega, h2⟩
    | false =>
      rw [toN_no g] at h
      by_cases e : i = toN P n
      · exact ⟨n, by omega, g, e.symm⟩
      · obtain ⟨p, h1, h2⟩ := kI_ex (P := P) (n := n) (i := i) (by omega)
        exact ⟨p, by omega, h2⟩
theorem dropN_at {G : List Pn} {P : List Int} {p : Nat} (hg : goneAt P p = false) (hp : p < G.length) : nAt (dropN G P G.length) (toN P p) = dropNode P (nAt G p) := by
  apply nAt_get
  show (List.map _ (kI P G.length))[toN P p]? = _
  rw [List.getElem?_map, kI_at hg hp]; rfl
theorem sub_len {α : Type} [DecidableEq α] : ∀ {A B : List α}, A.Nodup → (∀ a ∈ A, a ∈ B) → A.length ≤ B.length
  | [], B, _, _ => Nat.zero_le _
  | a :: A, B, hn, hs => by
    have hn' := List.nodup_cons.1 hn
    have h1 : A.length ≤ (B.erase a).length := sub_len hn'.2 (fun x hx => (List.mem_erase_of_ne (fun (e : x = a) => hn'.1 (e ▸ hx))).2 (hs x (by simp [hx])))
    have h2 := List.length_erase_of_mem (hs a (by simp))
    have h3 : 0 < B.length := List.length_pos_of_mem (hs a (by simp))
    simp only [List.length_cons]; omega
theorem gone_count (P : List Int) : ∀ n, toN P n + ((List.range n).filter (goneAt P)).length = n
  | 0 => rfl
  | n + 1 => by
    have := gone_count P n
    rw [List.range_succ, List.filter_append, List.length_append]
    cases g : goneAt P n with
    | true => rw [toN_yes g]; simp [g]; omega
    | false => rw [toN_no g]; simp [g]; omega
theorem toN_all {n : Nat} {P : List Int} (h : OkTo n P) : toN P n = n - P.length ∧ P.length ≤ n := by
  have hc := gone_count P n
  have h1 : ((List.range n).filter (goneAt P)).length ≤ P.length := by
    have := sub_len (A := ((List.range n).filter (goneAt P)).map (fun (i : Nat) => (i : Int))) (B := P) (by
      rw [List.nodup_iff_pairwise_ne, List.pairwise_map]
      exact (List.Pairwise.filter _ (List.nodup_iff_pairwise_ne.1 (List.nodup_range))).imp (fun h e => h (by omega))) (fun a ha => by
      obtain ⟨i, hi, rfl⟩ := List.mem_map.1 ha
      exact of_decide_eq_true (List.mem_filter.1 hi).2)
    rwa [List.length_map] at this
  have h2 : P.length ≤ ((List.range n).filter (goneAt P)).length := by
    have := sub_len (A := P) (B := ((List.range n).filter (goneAt P)).map (fun (i : Nat) => (i : Int))) h.2 (fun a ha => by
      have hr := h.1 a ha
      refine List.mem_map.2 ⟨a.toNat, List.mem_filter.2 ⟨List.mem_range.2 (by omega), ?_⟩, by omega⟩
      exact decide_eq_true (by rw [Int.toNat_of_nonneg hr.1]; exact ha))
    rwa [List.length_map] at this
  omega
theorem Chk.inj {G : List Pn} {s d deg b n m : Int} (h : Chk G s d deg b n m) {i j : Nat} (hi : i < G.length) (hj : j < G.length) (e : (nAt G i).1 = (nAt G j).1) : i = j := by
  have h1 := (h.nd i hi).2.2.2.2
  have h2 := (h.nd j hj).2.2.2.2
  rw [e, h2] at h1; omega
theorem findI_stay {G : List Pn} {s d deg b n m : Int} (h : Chk G s d deg b n m) {P : List Int} {p : Nat} (hp : p < G.length) (hg : goneAt P p = false) : findI (dropN G P G.length) (nAt G p).1 = ((toN P p : Nat) : Int) := by
  refine findI_at (by rw [dropN_len]; exact toN_lt hg hp) (by rw [dropN_at hg hp]; rfl) (fun j hj => ?_)
  obtain ⟨q, hq, hgq, rfl⟩ := kI_ex (P := P) (n := G.length) (i := j) (by have := toN_lt hg hp; omega)
  rw [dropN_at hgq hq]
  intro e
  have e2 : (nAt G q).1 = (nAt G p).1 := e
  have := h.inj hq hp e2
  subst this; omega
theorem findI_gone {G : List Pn} {s d deg b n m : Int} (h : Chk G s d deg b n m) {P : List Int} {p : Nat} (hp : p < G.length) (hg : goneAt P p = true) : findI (dropN G P G.length) (nAt G p).1 = -1 := by
  refine findI_none (fun j hj => ?_)
  rw [dropN_len] at hj
  obtain ⟨q, hq, hgq, rfl⟩ := kI_ex hj
  rw [dropN_at hgq hq]
  intro e
  have e2 : (nAt G q).1 = (nAt G p).1 := e
  have := h.inj hq hp e2
  subst this; rw [hg] at hgq; cases hgq
theorem keepO_nodup {n : Nat} {P o : List Int} (ho : ∀ t ∈ o, 0 ≤ t ∧ t < (n : Int)) (hn : o.Nodup) : (keepO P o).Nodup := by
  unfold keepO
  rw [List.nodup_iff_pairwise_ne, List.pairwise_map]
  refine List.Pairwise.imp_of_mem ?_ (List.Pairwise.filter _ (List.nodup_iff_pairwise_ne.1 hn))
  intro a b' ha hb hne e
  have ha' := List.mem_filter.1 ha
  have hb' := List.mem_filter.1 hb
  have ga : goneAt P a.toNat = false := by simpa using ha'.2
  have gb : goneAt P b'.toNat = false := by simpa using hb'.2
  have ra := ho a ha'.1
  have rb := ho b' hb'.1
  rcases Nat.lt_trichotomy a.toNat b'.toNat with q | q | q
  · have := toN_lt ga q; omega
  · exact hne (by omega)
  · have := toN_lt gb q; omega
theorem Chk.drop {G : List Pn} {s d deg b n m : Int} (h : Chk G s d deg b n m) {P : List Int} (hP : OkTo G.length P) : Chk (dropN G P G.length) (if 0 < G.length ∧ goneAt P s.toNat = false then ((toN P s.toNat : Nat) : Int) else 0) d deg b n m := by
  have hl := dropN_len G P G.length
  have hle := toN_le P G.length
  refine ⟨h.su, ⟨by have := h.ho.1; omega, by split <;> omega, ?_, fun x hx t ht => ?_⟩, fun i hi => ?_⟩
  · split
    · rename_i q
      have h1 := h.ho.2.1
      have h2 := h.ho.2.2.1
      left
      rw [hl]
      have := toN_lt q.2 (q := G.length) (by omega)
      omega
    · right; omega
  · have hx' : x ∈ List.map (fun i => dropNode P (nAt G i)) (kI P G.length) := hx
    obtain ⟨i, hi, rfl⟩ := List.mem_map.1 hx'
    have hi' := List.mem_range.1 (List.mem_filter.1 hi).1
    obtain ⟨p, hp, hg, rfl⟩ := keepO_mem ht
    have hr := h.ho.2.2.2 _ (nAt_mem hi') p hp
    rw [hl]
    have := toN_lt hg (q := G.length) (by omega)
    omega
  · rw [hl] at hi
    obtain ⟨p, hp, hg, rfl⟩ := kI_ex hi
    obtain ⟨n1, n2, n3, n4, n5⟩ := h.nd p hp
    have hu := of_decide_eq_true n4
    have hr := h.ho.2.2.2 _ (nAt_mem hp)
    unfold NodeOk
    rw [dropN_at hg hp]
    refine ⟨n1, n2, Int.le_trans (by have := keepO_len P (nAt G p).2.2; show ((keepO P (nAt G p).2.2).length : Int) ≤ _; omega) n3, decide_eq_true ⟨fun t ht e => ?_, keepO_nodup (n := G.length) hr hu.2⟩, findI_stay h hp hg⟩
    obtain ⟨q, hq, hgq, rfl⟩ := keepO_mem ht
    have hrq := hr q hq
    have hne := hu.1 q hq
    rcases Nat.lt_trichotomy q.toNat p with c | c | c
    · have := toN_lt hgq c; omega
    · exact hne (by omega)
    · have := toN_lt hg c; omega
theorem keepO_pre (P o : List Int) (j : Nat) : ∃ T, keepO P o = keepO P (o.take j) ++ T := by
  refine ⟨keepO P (o.drop j), ?_⟩
  conv => lhs; rw [← List.take_append_drop j o]
  unfold keepO
  rw [List.filter_append, List.map_append]
theorem keepO_here {P o : List Int} {j : Nat} {p : Nat} (hp : o[j]? = some (p : Int)) (h : goneAt P p = false) : (keepO P o)[(keepO P (o.take j)).length]? = some ((toN P p : Nat) : Int) := by
  obtain ⟨T, e⟩ := keepO_pre P o (j + 1)
  rw [e, keepO_no hp h, List.append_assoc, List.getElem?_append_right (Nat.le_refl _), Nat.sub_self]; rfl

theorem LastIs.next {P : List Int} {n k p : Nat} (hp : p < n) (hn : n ≤ 20000) (hg : goneAt P p = false) (hk : toN P p = k) : LastIs P n (k + 1) (p : Int) := by
  refine ⟨by omega, by omega, fun q hq hgq e => ?_⟩
  rcases Nat.lt_or_ge p q with h | h
  · omega
  · have := toN_mono P h; omega
theorem own_room9 {w : World} {base c n : Nat} {e : TypeId} {A : Option Addr} {xs : List Value} (h : w.ownsRow base e 1 (.slice A n c) n xs) : n ≤ c := by
  rcases h.2 with ⟨h0, h1⟩ | ⟨g, cap, cur, e, _, _, hc, _⟩
  · omega
  · injection e with e1 e2 e3; omega
set_option maxRecDepth 100000 in
set_option maxHeartbeats 8000000 in
theorem graphLeft_main (A : Option Addr) (c : Nat) (L : List Gn) (s d deg bm nm dn : Int) (B : Option Addr) (q : Nat) (P : List Int) (w : World) (hx : GGiven w A L) (hnl : ∀ x ∈ L, x.2.1.1 = none → x.2.1.2.1 = 0) (hp : Rd .i64 w w.heap.size B P) (hP : P.length ≤ 140737488355328) :
    Calls Try.prog 3 #[.agg #[.slice A L.length c, .int .i64 s], .agg #[.int .i64 d, .int .i64 deg, .int .i64 bm, .int .i64 nm, .int .i64 dn], .slice B P.length q] w fun e w' => e = .returned (.bool true) ∧ Below w.heap.size w w' := by
  have B0 : Below w.heap.size w ((w.alloc (.cells #[.slice A L.length c, .int .i64 s] 24)).alloc (.cells #[.int .i64 d, .int .i64 deg, .int .i64 bm, .int .i64 nm, .int .i64 dn] 26)) := below_one (below_one (Below.refl _ _) _) _
  have HW0 := Lib.hid ((Whole.new w 24 #[.slice A L.length c, .int .i64 s]).alloc (.cells #[.int .i64 d, .int .i64 deg, .int .i64 bm, .int .i64 nm, .int .i64 dn] 26))
  have HW1 : Hid (Whole ((w.alloc (.cells #[.slice A L.length c, .int .i64 s] 24)).alloc (.cells #[.int .i64 d, .int .i64 deg, .int .i64 bm, .int .i64 nm, .int .i64 dn] 26)) (w.heap.size + 1) 26 #[.int .i64 d, .int .i64 deg, .int .i64 bm, .int .i64 nm, .int .i64 dn]) := Lib.hid (by
    have := Whole.new (w.alloc (.cells #[.slice A L.length c, .int .i64 s] 24)) 26 #[.int .i64 d, .int .i64 deg, .int .i64 bm, .int .i64 nm, .int .i64 dn]
    simpa using this)
  have HB0 := Lib.hid B0
  have HX := Lib.hid hx
  have HNL := Lib.hid hnl
  have HP := Lib.hid hp
  clear B0 hx hnl hp
  go_enter Try.func3, Try.ntmps3
  go_wp2_with fail
  obtain ⟨w1, ew1⟩ : ∃ w1, (w.alloc (.cells #[.slice A L.length c, .int .i64 s] 24)).alloc (.cells #[.int .i64 d, .int .i64 deg, .int .i64 bm, .int .i64 nm, .int .i64 dn] 26) = w1 := ⟨_, rfl⟩
  rw [ew1] at HW0 HW1 HB0 ⊢
  obtain ⟨g, eg⟩ : ∃ g, w.heap.size = g := ⟨_, rfl⟩
  rw [eg] at HW0 HW1 ⊢
  have HG := Lib.hid eg
  clear ew1 eg
  refine (alive_any w1).mono ?_
  rintro e w2 ⟨rfl, b2⟩
  dsimp only
  have HB2 := Lib.hid (HB0.out.trans (b2.mono HB0.out.size))
  have Z2 := HW0.out.below b2 HW0.out.lt
  have HZ2 := Lib.hid Z2
  have HS2 := Lib.hid (HW1.out.below b2 HW1.out.lt)
  have y0 := Z2.cell 0
  have y1 := Z2.cell 1
  clear Z2 b2 HB0 HW0 HW1
  go_wp2_with fail
  refine (great9_any A c L s w2 (HX.out.below HB2.out)).mono ?_
  rintro e w3 ⟨⟨gb, rfl, hgb⟩, b3⟩
  dsimp only
  have HB3 := Lib.hid (HB2.out.trans (b3.mono HB2.out.size))
  cases gb with
  | true =>
    clear hgb y0 y1
    go_wp2_with fail
    refine (alive_any w3).mono ?_
    rintro e w4 ⟨rfl, b4⟩
    dsimp only
    go_wp2
    go_ret
    exact ⟨rfl, HB3.out.trans (b4.mono HB3.out.size)⟩
  | false =>
    have HSM := Lib.hid (hgb rfl)
    have Z3 := HZ2.out.below b3 HZ2.out.lt
    have S3 := HS2.out.below b3 HS2.out.lt
    have HZ3 := Lib.hid Z3
    have HS3 := Lib.hid S3
    clear hgb y0 y1 b3 HZ2 HB2 HS2
    have HAR : Hid (GArg w A L) := Lib.hid (HX.out.arg HSM.out)
    have y0 := Z3.cell 0
    have y1 := Z3.cell 1
    have q0 := S3.cell 0
    have q1 := S3.cell 1
    have q2 := S3.cell 2
    have q3 := S3.cell 3
    have q4 := S3.cell 4
    clear Z3 S3
    have hL : L.length ≤ 20000 := by have := HSM.out.len; rwa [pns_len] at this
    by_cases hn : 3000 < P.length
    case pos =>
      have ez : decide ((3000 : Int) < (P.length : Int)) = true := decide_eq_true (by omega)
      go_wp2_with fail
      refine (alive_any w3).mono ?_
      rintro e w4 ⟨rfl, b4⟩
      dsimp only
      go_wp2
      go_ret
      exact ⟨rfl, HB3.out.trans (b4.mono HB3.out.size)⟩
    have ez : decide ((3000 : Int) < (P.length : Int)) = false := decide_eq_false (by omega)
    have C1 := check_any A c L s d deg bm nm dn w3 (HAR.out.below HB3.out) (fun x hx => (HX.out.room x hx).2.1)
    go_wp2_with fail
    cases hh : checkB (pns L) s d deg bm nm dn with
    | false =>
      rw [hh] at C1
      clear hh
      refine C1.mono ?_
      rintro e w4 ⟨rfl, b4⟩
      dsimp only
      clear C1 y0 y1 q0 q1 q2 q3 q4
      go_wp2_with fail
      refine (alive_any w4).mono ?_
      rintro e w5 ⟨rfl, b5⟩
      dsimp only
      go_wp2
      go_ret
      exact ⟨rfl, HB3.out.trans ((b4.trans (b5.mono b4.size)).mono HB3.out.size)⟩
    | true =>
      have HCK := Lib.hid (checkB_yes hh)
      rw [hh] at C1
      clear hh
      refine C1.mono ?_
      rintro e w4 ⟨rfl, b4⟩
      dsimp only
      have HB4 := Lib.hid (HB3.out.trans (b4.mono HB3.out.size))
      have Z4 := HZ3.out.below b4 HZ3.out.lt
      have HZ4 := Lib.hid Z4
      have HS4 := Lib.hid (HS3.out.below b4 HS3.out.lt)
      have HLN := Lib.hid (pns_len L)
      clear C1 y0 y1 q0 q1 q2 q3 q4 b4 HZ3 HS3 HB3 ez
      have y0 := Z4.cell 0
      have y1 := Z4.cell 1
      clear Z4
      have hl2 : L.length ≤ 2048 := by have := HCK.out.ho.1; rwa [pns_len] at this
      have C1 := drop_any A c L s B q P w4 (HAR.out.below HB4.out) HNL.out ((HP.out.below HB4.out).more HB4.out.size) (by omega)
      cases hdb : dropB (pns L) s P with
      | false =>
        have E1 : dropA (pns L) s P = [] := by unfold dropA; rw [hdb]; rfl
        have E2 : dropS (pns L) s P = 0 := by unfold dropS; rw [hdb]; rfl
        rw [hdb, E1, E2, show errG false = 1 from rfl] at C1
        clear hdb E1 E2
        go_wp2_with fail
        refine C1.mono ?_
        rintro e w5 ⟨A5, q5, T5, rfl, o5, v5, b5⟩
        dsimp only
        have h5 : T5 = [] := List.map_eq_nil_iff.1 v5
        subst h5
        clear o5 v5 C1 y0 y1
        go_wp2
        go_ret
        exact ⟨rfl, HB4.out.trans ((below_one b5 _).mono HB4.out.size)⟩
      | true =>
        have hokP : OkTo (pns L).length P := by
          unfold dropB at hdb
          simp only [Bool.and_eq_true] at hdb
          exact of_decide_eq_true hdb.2
        have E1 : dropA (pns L) s P = dropN (pns L) P (pns L).length := by unfold dropA; rw [hdb]; rfl
        have HCD : Hid (Chk (dropN (pns L) P (pns L).length) (dropS (pns L) s P) d deg bm nm dn) := Lib.hid (by rw [dropS_if hdb]; exact HCK.out.drop hokP)
        have htn := toN_all hokP
        rw [HLN.out] at htn
        obtain ⟨S, eS⟩ : ∃ S, dropS (pns L) s P = S := ⟨_, rfl⟩
        rw [eS] at HCD C1
        rw [hdb, E1, show errG true = 0 from rfl] at C1
        have HDS := Lib.hid (dropN_small9 P HSM.out HCK.out.ho.1)
        have HDO := Lib.hid (dropN_ok9 P HX.out.ok)
        have hdl := dropN_len (pns L) P (pns L).length
        rw [HLN.out] at hdl
        clear hdb E1 eS hokP
        go_upto_region 4 with (go_at_call 11; refine C1.mono ?_; rintro e w5 ⟨A5, q5, T5, rfl, o5, v5, b5⟩)
        have hT5 : T5.length = toN P L.length := by rw [← hdl, ← HLN.out, ← v5, pns_len]
        obtain ⟨w6, ew6⟩ : ∃ w6, w5.alloc (.cells #[.slice A5 T5.length q5, .int .i64 S] 24) = w6 := ⟨_, rfl⟩
        obtain ⟨x6, ex6⟩ : ∃ x6, w5.heap.size = x6 := ⟨_, rfl⟩
        have b6 : Below w4.heap.size w4 w6 := by rw [← ew6]; exact below_one b5 _
        have z6 : Whole w6 x6 24 #[.slice A5 T5.length q5, .int .i64 S] := by rw [← ew6, ← ex6]; exact Whole.new w5 _ _
        have b56 : Below w5.heap.size w5 w6 := by rw [← ew6]; exact below_one (Below.refl _ _) _
        have HR6 := Lib.hid ((o5.rd.below b56).more b56.size)
        have HV6 := Lib.hid v5
        have HRM : Hid (∀ x ∈ T5, x.2.2.2.2.length ≤ x.2.2.2.1) := Lib.hid (fun x hx => own_room9 (o5.out x hx))
        have HB6 := Lib.hid (HB4.out.trans (b6.mono HB4.out.size))
        have HZ6 := Lib.hid z6
        have HG6 := Lib.hid (HZ4.out.below b6 HZ4.out.lt)
        have HS6 := Lib.hid (HS4.out.below b6 HS4.out.lt)
        have HCL : Hid (∀ W, Below w6.heap.size w6 W → (W.cell? ⟨g, 0, none⟩ = some (.slice A L.length c) ∧ W.cell? ⟨g, 1, none⟩ = some (.int .i64 s)) ∧ W.cell? ⟨x6, 0, none⟩ = some (.slice A5 T5.length q5) ∧ W.cell? ⟨x6, 1, none⟩ = some (.int .i64 S)) := Lib.hid (fun W h => by
          have z := HG6.out.below h HG6.out.lt
          have z' := HZ6.out.below h HZ6.out.lt
          exact ⟨⟨z.cell 0, z.cell 1⟩, z'.cell 0, z'.cell 1⟩)
        have S6 := HS6.out
        have hLE : T5.length + P.length = L.length := by omega
        have HTN := Lib.hid hT5
        have f1 : ((T5.length : Int) != (L.length : Int) - (P.length : Int)) = false := by simp; omega
        have hpl : P.length ≤ L.length := htn.2
        have hT2 : T5.length ≤ 2048 := by omega
        have C2 := check_any A5 q5 T5 S d deg bm nm dn w6 ⟨HR6.out, by rw [HV6.out]; exact HDS.out, by rw [HV6.out]; exact HDO.out⟩ HRM.out
        rw [HV6.out, checkB_of HCD.out] at C2
        rw [ew6, ex6]
        clear ew6 ex6 b6 z6 b56 o5 v5 b5 C1 htn hdl hT5 hLE y0 y1
        obtain ⟨⟨y0, y1⟩, y2, y3⟩ := HCL.out _ (Below.refl _ _)
        have q0 := S6.cell 0
        have q1 := S6.cell 1
        have q2 := S6.cell 2
        have q3 := S6.cell 3
        have q4 := S6.cell 4
        clear S6
        go_wp2_with fail
        refine C2.mono ?_
        rintro e w7 ⟨rfl, b7⟩
        dsimp only
        clear C2 y0 y1 y2 y3 q0 q1 q2 q3 q4
        obtain ⟨⟨y0, y1⟩, y2, y3⟩ := HCL.out _ b7
        have HB67 := Lib.hid b7
        have HL0 : Hid (LastIs P L.length 0 (-1)) := Lib.hid ⟨by omega, by omega, fun p _ _ _ => by omega⟩
        clear b7
        go_wp2
        go_loopw [9, 10] (fun a i wr => ∃ (k : Nat) (la : Int), k ≤ T5.length ∧ a = .int .i64 la ∧ i = .int .i64 k ∧ Hid (LastIs P L.length k la) ∧ Hid (Below w6.heap.size w6 wr)) (fun _ i _ => T5.length - (intOf i).toNat)
        case atStart => exact ⟨0, -1, by omega, rfl, rfl, HL0, HB67⟩
        case round =>
          clear HB67 HL0 y0 y1 y2 y3
          obtain ⟨k, la, hk, rfl, rfl, HLA, HB⟩ := hrel
          obtain ⟨⟨y0, y1⟩, y2, y3⟩ := HCL.out _ HB.out
          by_cases hlt : k < T5.length
          · have e1 : decide ((k : Int) < (T5.length : Int)) = true := decide_eq_true (by omega)
            obtain ⟨p, hp, hgp, hkp⟩ := kI_ex (P := P) (n := L.length) (i := k) (by rw [← HTN.out]; exact hlt)
            have hp2 : p < (pns L).length := by rw [HLN.out]; exact hp
            have hlap := HLA.out.2.2 p hp hgp hkp
            have hla1 := HLA.out.1
            have hla2 := HLA.out.2.1
            obtain ⟨b5, o5, id, a1, c1, v, a2, c2, o, rfl, hB5, h1, h2, h3, hr1, hr2, hv⟩ := ((HR6.out.below HB.out).more HB.out.size).at_ hlt
            have hat := nAt_get (pns_at hv.out)
            have hD := dropN_at (G := pns L) hgp hp2
            rw [hkp, ← HV6.out, hat] at hD
            have hX := (HAR.out.below (HB6.out.trans (HB.out.mono HB6.out.size))).rd
            obtain ⟨b6, o6, id', a1', c1', v', a2', c2', o', rfl, hB6, h1', h2', h3', hr1', hr2', hv'⟩ := hX.at_ hp
            have hat' := nAt_get (pns_at hv'.out)
            have hsm := HSM.out.at_ (nAt_mem hp2)
            rw [hat'] at hD hsm
            obtain ⟨rfl, hD2⟩ := Prod.mk.inj hD
            obtain ⟨rfl, ho⟩ := Prod.mk.inj hD2
            have HO := Lib.hid ho
            have HAT := Lib.hid hat'
            have lv : v.length ≤ 20000 := hsm.1
            have lo' : o'.length ≤ 20000 := hsm.2
            have lo : o.length ≤ 20000 := by rw [ho]; exact Nat.le_trans (keepO_len _ _) lo'
            have hfi := (HCK.out.nd p hp2).2.2.2.2
            rw [hat'] at hfi
            have HRO := Lib.hid hr2
            have f2 : (p : Int) ≤ la ↔ False := ⟨fun h => by omega, fun h => h.elim⟩
            have e2 : decide ((p : Int) ≤ la) = false := decide_eq_false (by omega)
            have x1 : (0 : Int) ≤ (k : Int) := by omega
            have x2 : (k : Int) < (T5.length : Int) := by omega
            have x3 : (0 : Int) ≤ (p : Int) := by omega
            have x4 : (p : Int) < (L.length : Int) := by omega
            have hB6s := HB6.out.size
            have HBs := HB.out.size
            have FD := Lib.hid (fun (W : World) (hW : Below w6.heap.size w6 W) => find_any (some ⟨b6, o6, none⟩) c L s id W W.heap.size (Nat.le_refl _) (HAR.out.below (HB6.out.trans (hW.mono hB6s))).rd hL)
            rw [hfi] at FD
            have HV8 := Lib.hid hr1
            have HV8' := Lib.hid hr1'
            have HO8' := Lib.hid hr2'
            have HN : Hid (∀ W, Below wr.heap.size wr W → (W.cell? ⟨b5, o5 + k * 3 + 1, none⟩ = some (.slice a1 v.length c1) ∧ W.cell? ⟨b5, o5 + k * 3 + 2, none⟩ = some (.slice a2 o.length c2)) ∧ W.cell? ⟨b6, o6 + p * 3 + 1, none⟩ = some (.slice a1' v.length c1') ∧ W.cell? ⟨b6, o6 + p * 3 + 2, none⟩ = some (.slice a2' o'.length c2')) := Lib.hid (fun W h => ⟨⟨(h.cell (p := ⟨b5, o5 + k * 3 + 1, none⟩) hB5).trans h2, (h.cell (p := ⟨b5, o5 + k * 3 + 2, none⟩) hB5).trans h3⟩, (h.cell (p := ⟨b6, o6 + p * 3 + 1, none⟩) hB6).trans h2', (h.cell (p := ⟨b6, o6 + p * 3 + 2, none⟩) hB6).trans h3'⟩)
            clear hX hr1 hr2 hr1' hr2' hv hv' hD hD2 ho hat hat' hsm hfi f2 hlap hla1
            go_upto_region 13 with fail
            obtain ⟨w8, ew8⟩ : ∃ w8, wr.alloc (.cells #[.int .u64 id, .slice a1 v.length c1, .slice a2 o.length c2] 37) = w8 := ⟨_, rfl⟩
            obtain ⟨bx, ebx⟩ : ∃ b, wr.heap.size = b := ⟨_, rfl⟩
            have hw8 : Below wr.heap.size wr w8 := by rw [← ew8]; exact below_one (Below.refl _ _) _
            have HZ8 : Hid (Whole w8 bx 37 #[.int .u64 id, .slice a1 v.length c1, .slice a2 o.length c2]) := Lib.hid (by rw [← ew8, ← ebx]; exact Whole.new wr _ _)
            have h68 : Below w6.heap.size w6 w8 := HB.out.trans (hw8.mono HBs)
            have HB8 := Lib.hid h68
            have HW8 := Lib.hid hw8
            rw [ew8, ebx]
            clear ew8 ebx y0 y1 y2 y3 h1 h2 h3 h1' h2' h3'
            obtain ⟨⟨y0, y1⟩, y2, y3⟩ := HCL.out _ h68
            have n0 := HZ8.out.cell 0
            go_wp2_with fail
            refine (FD.out _ h68).mono ?_
            rintro e w9 ⟨rfl, b9⟩
            dsimp only
            clear y0 y1 y2 y3 n0
            have h89 := b9
            have HB9 := Lib.hid (HB8.out.trans (b9.mono HB8.out.size))
            have HZ9 := Lib.hid (HZ8.out.below b9 HZ8.out.lt)
            have HW9 := Lib.hid (HW8.out.trans (b9.mono HW8.out.size))
            obtain ⟨⟨y0, y1⟩, y2, y3⟩ := HCL.out _ HB9.out
            obtain ⟨⟨m1, m2⟩, m3, m4⟩ := HN.out _ HW9.out
            have n1 := HZ9.out.cell 1
            have heq : eqZ v v = true := eqZ_self v
            have KS : ∀ W, Below w9.heap.size w9 W → W.cell? ⟨g, 0, none⟩ = some (.slice (some ⟨b6, o6, none⟩) L.length c) ∧ W.cell? ⟨b6, o6 + p * 3 + 1, none⟩ = some (.slice a1' v.length c1') ∧ W.cell? ⟨bx, 1, none⟩ = some (.slice a1 v.length c1) := fun W h => by
              have h1 := HB9.out.trans (h.mono HB9.out.size)
              have h2 := HW9.out.trans (h.mono HW9.out.size)
              exact ⟨(HCL.out _ h1).1.1, (HN.out _ h2).2.1, (HZ9.out.below h HZ9.out.lt).cell 1⟩
            have S9 := Lib.hid (fun W (hW : Below w9.heap.size w9 W) => (same8Z_any a1' a1 c1' c1 v v W wr.heap.size (HV8'.out.below (HW9.out.trans (hW.mono HW9.out.size))) (HV8.out.below (HW9.out.trans (hW.mono HW9.out.size))) (by omega) (by omega)).mono fun e w' q => (by
              rw [heq] at q
              obtain ⟨q1, nq, rfl⟩ := q
              exact ⟨q1, below_drewN hW nq, KS _ (below_drewN hW nq)⟩ : e = .returned (.bool true) ∧ Below w9.heap.size w9 w' ∧ w'.cell? ⟨g, 0, none⟩ = some (.slice (some ⟨b6, o6, none⟩) L.length c) ∧ w'.cell? ⟨b6, o6 + p * 3 + 1, none⟩ = some (.slice a1' v.length c1') ∧ w'.cell? ⟨bx, 1, none⟩ = some (.slice a1 v.length c1)))
            have hd9 : Below w9.heap.size w9 w9.drew := (Below.refl _ _).drew
            obtain ⟨j1, j2, j3⟩ := KS _ hd9
            clear y0 y1 y2 y3 m1 m2 m3 m4 n1 heq KS
            go_wp2
            go_region_held3 (fun w' => w'.cell? ⟨g, 0, none⟩ = some (.slice (some ⟨b6, o6, none⟩) L.length c) ∧ w'.cell? ⟨b6, o6 + p * 3 + 1, none⟩ = some (.slice a1' v.length c1') ∧ w'.cell? ⟨bx, 1, none⟩ = some (.slice a1 v.length c1))
              (first | exact ⟨by with_reducible assumption, by with_reducible assumption, by with_reducible assumption⟩)
              (first
                | (go_at_call 13; (with_reducible refine (S9.out _ (by with_reducible assumption)).mono ?_); rintro e wA ⟨rfl, bA, z1, z2, z3⟩)
                | fail)
            have HBA := Lib.hid (HB9.out.trans (bA.mono HB9.out.size))
            have HWA := Lib.hid (HW9.out.trans (bA.mono HW9.out.size))
            have HZA := Lib.hid (HZ9.out.below bA HZ9.out.lt)
            have HCKo : Hid (∀ t ∈ o', 0 ≤ t ∧ t < (L.length : Int)) := Lib.hid (fun t ht => by
              have := HCK.out.ho.2.2.2 _ (nAt_mem hp2) t (by rw [HAT.out]; exact ht)
              rw [HLN.out] at this; exact this)
            have HBB := Lib.hid (Below.refl wA.heap.size wA)
            have HK0 : Hid ((keepO P (o'.take 0)).length = 0) := Lib.hid rfl
            clear z1 z2 z3 j1 j2 j3 hd9 bA b9 h89 h68 hw8 S9 FD
            go_wp2
            go_loopw [13, 14] (fun a j wz => ∃ i : Nat, i ≤ o'.length ∧ j = .int .i64 i ∧ a = .int .i64 (((keepO P (o'.take i)).length : Nat) : Int) ∧ Hid (Below wA.heap.size wA wz)) (fun _ j _ => o'.length - (intOf j).toNat)
            case atStart => exact ⟨0, by omega, rfl, by rw [HK0.out]; rfl, HBB⟩
            case round =>
              clear HBB HK0
              obtain ⟨i, hi, rfl, rfl, HBz⟩ := hrel
              have HB6z := Lib.hid (HBA.out.trans (HBz.out.mono HBA.out.size))
              have HWz := Lib.hid (HWA.out.trans (HBz.out.mono HWA.out.size))
              have HZz := Lib.hid (HZA.out.below HBz.out HZA.out.lt)
              obtain ⟨⟨y0, y1⟩, y2, y3⟩ := HCL.out _ HB6z.out
              obtain ⟨⟨m1, m2⟩, m3, m4⟩ := HN.out _ HWz.out
              have n2 := HZz.out.cell 2
              by_cases hio : i < o'.length
              · have e3 : decide ((i : Int) < (o'.length : Int)) = true := decide_eq_true (by omega)
                have x5 : (0 : Int) ≤ (i : Int) := by omega
                have x6' : (i : Int) < (o'.length : Int) := by omega
                obtain ⟨bo, oo, t, rfl, hBo, hct, hvt⟩ := (HO8'.out.below HWz.out).at_ hio
                have hmem : o'[i]? = some t := by
                  have := hvt.out
                  rw [List.getElem?_eq_getElem hio] at this ⊢
                  exact congrArg some this
                have htr := HCKo.out t (List.mem_of_getElem? hmem)
                obtain ⟨tN, rfl⟩ := Int.eq_ofNat_of_zero_le htr.1
                have htn : tN < L.length := by omega
                have ht2 : tN < (pns L).length := by rw [HLN.out]; exact htn
                have x7 : (0 : Int) ≤ (tN : Int) := by omega
                have x8 : (tN : Int) < (L.length : Int) := by omega
                obtain ⟨b7, o7, idt, a3, c3, vt, a4, c4, ot, e7, hB7, t1, t2, t3, tr1, tr2, tv⟩ := ((HAR.out.below (HB6.out.trans (HB6z.out.mono hB6s))).rd).at_ htn
                cases e7
                have hatt := nAt_get (pns_at tv.out)
                have KS : ∀ W, Below wr.heap.size wr W → (W.cell? ⟨x6, 0, none⟩ = some (.slice (some ⟨b5, o5, none⟩) T5.length q5) ∧ W.cell? ⟨x6, 1, none⟩ = some (.int .i64 S)) ∧ W.cell? ⟨g, 0, none⟩ = some (.slice (some ⟨b6, o6, none⟩) L.length c) ∧ W.cell? ⟨b6, o6 + p * 3 + 2, none⟩ = some (.slice (some ⟨bo, oo, none⟩) o'.length c2') ∧ W.cell? ⟨bo, oo + i, none⟩ = some (.int .i64 (tN : Int)) ∧ W.cell? ⟨b6, o6 + tN * 3, none⟩ = some (.int .u64 idt) := fun W h => by
                  have h1 := HB6z.out.trans (h.mono HB6z.out.size)
                  have h2 := HWz.out.trans (h.mono HWz.out.size)
                  have h3 := HWz.out.size
                  exact ⟨(HCL.out _ h1).2, (HCL.out _ h1).1.1, (HN.out _ h2).2.2, (h.cell (p := ⟨bo, oo + i, none⟩) (Nat.lt_of_lt_of_le hBo h3)).trans hct, (h.cell (p := ⟨b6, o6 + tN * 3, none⟩) hB7).trans t1⟩
                have hdz : Below wr.heap.size wr wr.drew := (Below.refl _ _).drew
                have FD2 := fun (W : World) (hW : Below wr.heap.size wr W) => (find_any (some ⟨b5, o5, none⟩) q5 T5 S idt W W.heap.size (Nat.le_refl _) ((HR6.out.below (HB6z.out.trans (hW.mono HB6z.out.size))).more (by have := HB6z.out.size; have := hW.size; omega)) (by omega)).mono (fun e w' q => (by
                  have hw := hW.trans (q.2.mono hW.size)
                  exact ⟨q.1, hw, KS _ hw⟩ : e = .returned (.int .i64 (findI (pns T5) idt)) ∧ Below wr.heap.size wr w' ∧ (w'.cell? ⟨x6, 0, none⟩ = some (.slice (some ⟨b5, o5, none⟩) T5.length q5) ∧ w'.cell? ⟨x6, 1, none⟩ = some (.int .i64 S)) ∧ w'.cell? ⟨g, 0, none⟩ = some (.slice (some ⟨b6, o6, none⟩) L.length c) ∧ w'.cell? ⟨b6, o6 + p * 3 + 2, none⟩ = some (.slice (some ⟨bo, oo, none⟩) o'.length c2') ∧ w'.cell? ⟨bo, oo + i, none⟩ = some (.int .i64 (tN : Int)) ∧ w'.cell? ⟨b6, o6 + tN * 3, none⟩ = some (.int .u64 idt)))
                have HFD2 := Lib.hid FD2
                obtain ⟨⟨j1, j2⟩, j3, j4, j5, j6⟩ := KS _ hdz
                have HMM := Lib.hid hmem
                cases hgt : goneAt P tN with
                | true =>
                  have hfx : findI (pns T5) idt = -1 := by
                    have := findI_gone HCK.out ht2 hgt
                    rw [hatt] at this
                    rw [HV6.out]; exact this
                  rw [hfx] at HFD2
                  have HKK := Lib.hid (keepO_yes hmem hgt)
                  clear t1 t2 t3 tr1 tr2 tv hatt hfx hgt ht2 hmem hvt hct htr FD2 KS
                  go_wp2
                  clear y0 y1 y2 y3 m1 m2 m3 m4
                  go_region_held3 (fun w' => w'.cell? ⟨x6, 0, none⟩ = some (.slice (some ⟨b5, o5, none⟩) T5.length q5) ∧ w'.cell? ⟨x6, 1, none⟩ = some (.int .i64 S) ∧ w'.cell? ⟨g, 0, none⟩ = some (.slice (some ⟨b6, o6, none⟩) L.length c) ∧ w'.cell? ⟨b6, o6 + p * 3 + 2, none⟩ = some (.slice (some ⟨bo, oo, none⟩) o'.length c2') ∧ w'.cell? ⟨bo, oo + i, none⟩ = some (.int .i64 (tN : Int)) ∧ w'.cell? ⟨b6, o6 + tN * 3, none⟩ = some (.int .u64 idt))
                    (first | exact ⟨by with_reducible assumption, by with_reducible assumption, by with_reducible assumption, by with_reducible assumption, by with_reducible assumption, by with_reducible assumption⟩)
                    (first
                      | (go_at_call 12; (with_reducible refine (HFD2.out _ (by with_reducible assumption)).mono ?_); rintro e wB ⟨rfl, bB, ⟨z1, z2⟩, z3, z4, z5, z6⟩)
                      | fail)
                  all_goals
                    have HBN := Lib.hid (HBz.out.trans (bB.mono HBz.out.size))
                    clear z1 z2 z3 z4 z5 z6 j1 j2 j3 j4 j5 j6 hdz bB n2
                    go_wp2
                    go_roundw
                    case rel => exact ⟨i + 1, by omega, by go_num, by rw [HKK.out], HBN⟩
                    case measure => simp [intOf]; omega
                | false =>
                  have hfx : findI (pns T5) idt = ((toN P tN : Nat) : Int) := by
                    have := findI_stay HCK.out ht2 hgt
                    rw [hatt] at this
                    rw [HV6.out]; exact this
                  rw [hfx] at HFD2
                  have hkh := keepO_here hmem hgt
                  rw [← HO.out] at hkh
                  have HKK := Lib.hid (keepO_no hmem hgt)
                  have htle := toN_le P tN
                  obtain ⟨kk, ekk⟩ : ∃ kk, (keepO P (o'.take i)).length = kk := ⟨_, rfl⟩
                  rw [ekk] at hkh
                  have hkl : kk < o.length := by
                    rcases Nat.lt_or_ge kk o.length with h | h
                    · exact h
                    · rw [List.getElem?_eq_none h] at hkh; cases hkh
                  have HEK := Lib.hid ekk
                  obtain ⟨tt, ett⟩ : ∃ tt, toN P tN = tt := ⟨_, rfl⟩
                  rw [ett] at hkh HFD2 htle
                  obtain ⟨bq, oq, tq, rfl, hBq, hcq, hvq⟩ := (HRO.out.below HWz.out).at_ hkl
                  have etq : tq = (tt : Int) := by rw [← hvq.out, hkh]; rfl
                  subst etq
                  have KQ : Hid (∀ W, Below wr.heap.size wr W → W.cell? ⟨bq, oq + kk, none⟩ = some (.int .i64 (tt : Int)) ∧ W.cell? ⟨bx, 2, none⟩ = some (.slice (some ⟨bq, oq, none⟩) o.length c2)) := Lib.hid (fun W h => ⟨(h.cell (p := ⟨bq, oq + kk, none⟩) (Nat.lt_of_lt_of_le hBq HWz.out.size)).trans hcq, (HZz.out.below h HZz.out.lt).cell 2⟩)
                  have f3 : ((kk : Int) == (o.length : Int)) = false := by simp; omega
                  have f4 : decide ((tt : Int) < 0) = false := decide_eq_false (by omega)
                  have f5 : ((tt : Int) != (tt : Int)) = false := by simp
                  have f6 : (0 : Int) ≤ (kk : Int) := by omega
                  have f7 : (kk : Int) < (o.length : Int) := by omega
                  have f8 : IntKind.i64.wrap ((kk : Int) + 1) = (kk : Int) + 1 := IntWalk.i64_in _ (by omega)
                  have HRL : Hid (Value.int .i64 ((kk : Int) + 1) = Value.int .i64 (((keepO P (o'.take (i + 1))).length : Nat) : Int)) := Lib.hid (by rw [HKK.out, List.length_append, HEK.out]; simp)
                  rw [ekk]
                  clear t1 t2 t3 tr1 tr2 tv hatt hfx hgt ht2 hmem hvt hct htr FD2 KS hkh ekk ett hcq hvq
                  go_wp2
                  clear y0 y1 y2 y3 m1 m2 m3 m4 n2
                  go_region_held3 (fun w' => w'.cell? ⟨x6, 0, none⟩ = some (.slice (some ⟨b5, o5, none⟩) T5.length q5) ∧ w'.cell? ⟨x6, 1, none⟩ = some (.int .i64 S) ∧ w'.cell? ⟨g, 0, none⟩ = some (.slice (some ⟨b6, o6, none⟩) L.length c) ∧ w'.cell? ⟨b6, o6 + p * 3 + 2, none⟩ = some (.slice (some ⟨bo, oo, none⟩) o'.length c2') ∧ w'.cell? ⟨bo, oo + i, none⟩ = some (.int .i64 (tN : Int)) ∧ w'.cell? ⟨b6, o6 + tN * 3, none⟩ = some (.int .u64 idt))
                    (first | exact ⟨by with_reducible assumption, by with_reducible assumption, by with_reducible assumption, by with_reducible assumption, by with_reducible assumption, by with_reducible assumption⟩)
                    (first
                      | (go_at_call 12; (with_reducible refine (HFD2.out _ (by with_reducible assumption)).mono ?_); rintro e wB ⟨rfl, bB, ⟨z1, z2⟩, z3, z4, z5, z6⟩)
                      | fail)
                  all_goals
                    have HBN := Lib.hid (HBz.out.trans (bB.mono HBz.out.size))
                    obtain ⟨r1, r2⟩ := KQ.out _ bB
                    clear z1 z2 z3 z4 z5 z6 j1 j2 j3 j4 j5 j6 hdz bB
                    go_wp2
                    go_roundw
                    case rel => exact ⟨i + 1, by omega, by go_num, by first | exact HRL.out | (rw [← HRL.out]; go_num), HBN⟩
                    case measure => simp [intOf]; omega
              · obtain rfl : i = o'.length := by omega
                have e3 : decide ((o'.length : Int) < (o'.length : Int)) = false := decide_eq_false (by omega)
                have e4 : keepO P (o'.take o'.length) = o := by rw [List.take_length, ← HO.out]
                rw [e4]
                have f3 : ((o.length : Int) != (o.length : Int)) = false := by simp
                have HLA2 : Hid (LastIs P L.length (k + 1) (p : Int)) := Lib.hid (LastIs.next hp hL hgp hkp)
                clear e4
                go_wp2
                go_roundw
                case rel => exact ⟨k + 1, (p : Int), by omega, rfl, by go_num, HLA2, HB6z⟩
                case measure => simp [intOf]; omega
          · obtain rfl : k = T5.length := by omega
            have e1 : decide ((T5.length : Int) < (T5.length : Int)) = false := decide_eq_false (by omega)
            go_wp2
            go_ret
            exact ⟨rfl, HB6.out.trans (HB.out.mono HB6.out.size)⟩
end Go.Proofs.Ytjdidlbmgnfcdaa
