/- The walk of PruneTwin. -/
import Derived.Test.YtjdidlbmgnfcdabUl
import Derived.Test.YtjdidlbmgnfcdabKc
import Derived.Deep.Cut
import Derived.Deep.RegionHeld3
namespace Go.Proofs.Ytjdidlbmgnfcdab
open Go.RowKit
set_option linter.unusedVariables false
set_option linter.unusedSimpArgs false
theorem sq_zero {x : Int} (h : x * x = 0) : x = 0 := by
  rcases Int.mul_eq_zero.1 h with h | h <;> exact h
theorem farL_pos : ∀ (u v : List Int), 0 ≤ farL (u.zip v)
  | [], v => by simp [farL]
  | _ :: _, [] => by simp [farL]
  | x :: u, y :: v => by
    have ih := farL_pos u v
    unfold farL at *
    simp only [List.zip_cons_cons, List.map_cons, List.sum_cons]
    have : 0 ≤ (x - y) * (x - y) := by
      rcases Int.le_total 0 (x - y) with h | h
      · exact Int.mul_nonneg h h
      · exact Int.mul_nonneg_of_nonpos_of_nonpos h h
    omega
theorem farL_zero : ∀ (u v : List Int), u.length = v.length → farL (u.zip v) = 0 → u = v
  | [], [], _, _ => rfl
  | [], _ :: _, h, _ => by simp at h
  | _ :: _, [], h, _ => by simp at h
  | x :: u, y :: v, h, hz => by
    have hp := farL_pos u v
    have e : farL ((x :: u).zip (y :: v)) = (x - y) * (x - y) + farL (u.zip v) := by unfold farL; simp
    rw [e] at hz
    have : 0 ≤ (x - y) * (x - y) := by
      rcases Int.le_total 0 (x - y) with h | h
      · exact Int.mul_nonneg h h
      · exact Int.mul_nonneg_of_nonpos_of_nonpos h h
    have h1 : (x - y) * (x - y) = 0 := by omega
    have h2 := sq_zero h1
    have h3 : x = y := by omega
    rw [h3, farL_zero u v (by simpa using h) (by omega)]
theorem rem_intQ (x n : Nat) : Int.tmod (x : Int) (n : Int) = ((x % n : Nat) : Int) := rfl
theorem u16_of_wfQ {n : Int} (h : (Lit.int .u16 n).wf = true) : 0 ≤ n ∧ n ≤ 65535 := by
  have h1 : IntKind.u16.min = 0 := rfl
  have h2 : IntKind.u16.max = 65535 := rfl
  simp only [Lit.wf, Bool.and_eq_true, decide_eq_true_eq] at h
  omega
/-- Are two nodes' vectors the same? -/
def sameV (G : List Pn) (i k : Nat) : Bool := eqZ (nAt G i).2.1 (nAt G k).2.1
theorem sameV_far {G : List Pn} {dm i k : Nat} (hP : PG G dm) (hi : i < G.length) (hk : k < G.length) : sameV G i k = true ↔ fI G i k = 0 := by
  unfold sameV fI far
  constructor
  · intro h
    have : (nAt G i).2.1 = (nAt G k).2.1 := by simpa [eqZ] using h
    rw [this]; exact farL_self _
  · intro h
    rw [farL_zero _ _ (by rw [hP.each i hi, hP.each k hk]) h]; exact decide_eq_true rfl
theorem ndP_same {G : List Pn} {dm : Nat} (hP : PG G dm) {n m : Int} (hm : 1 ≤ m) {a i k : Nat} (ha : a < G.length) (hi : i < G.length) (hk : k < G.length) (hs : sameV G i k = true) : ndP G n m a i k = true := by
  unfold ndP ndB
  rw [(sameV_far hP hi hk).1 hs]
  have := fI_bd hP hk ha
  exact decide_eq_true (by rw [Int.mul_zero]; exact Int.mul_nonneg (by omega) this.1)
theorem ndP_own {G : List Pn} {dm : Nat} (hP : PG G dm) {n m : Int} (hm : 1 ≤ m ∧ m ≤ n) {a k : Nat} (ha : a < G.length) (hk : k < G.length) : ndP G n m a a k = (sameV G a k || (n == m)) := by
  unfold ndP ndB
  rw [fI_comm G k a]
  have hb := fI_bd hP ha hk
  cases hs : sameV G a k with
  | true => rw [(sameV_far hP ha hk).1 hs]; simp
  | false =>
    have hne : fI G a k ≠ 0 := fun e => by rw [(sameV_far hP ha hk).2 e] at hs; cases hs
    rw [Bool.false_or]
    by_cases h : n = m
    · subst h; simp
    · have h1 : ¬ n * fI G a k ≤ m * fI G a k := fun h2 => by
        have : n ≤ m := Int.le_of_mul_le_mul_right h2 (by omega)
        omega
      rw [decide_eq_false h1]
      exact (beq_eq_false_iff_ne.2 h).symm
set_option maxRecDepth 100000 in
set_option maxHeartbeats 16000000 in
theorem pruneTwin_main (A : Option Addr) (c : Nat) (L : List Gn) (s d deg bm nm dn at_ : Int) (p q : Int) (w : World) (hx : GGiven w A L) (wp : (Lit.int .u16 p).wf = true) (wq : (Lit.int .u16 q).wf = true) :
    Calls Try.prog 3 #[.agg #[.slice A L.length c, .int .i64 s, .int .i64 d, .int .i64 deg, .int .i64 bm, .int .i64 nm, .int .i64 dn, .int .i64 at_], .int .u16 p, .int .u16 q] w fun e w' => e = .returned (.bool true) ∧ Below w.heap.size w w' := by
  have HW0 := Lib.hid (Whole.new w 28 #[.slice A L.length c, .int .i64 s, .int .i64 d, .int .i64 deg, .int .i64 bm, .int .i64 nm, .int .i64 dn, .int .i64 at_])
  have HB0 := Lib.hid (below_one (Below.refl w.heap.size w) (.cells #[.slice A L.length c, .int .i64 s, .int .i64 d, .int .i64 deg, .int .i64 bm, .int .i64 nm, .int .i64 dn, .int .i64 at_] 28))
  have HX := Lib.hid hx
  have up := u16_of_wfQ wp
  have uq := u16_of_wfQ wq
  obtain ⟨pN, rfl⟩ := Int.eq_ofNat_of_zero_le up.1
  obtain ⟨qN, rfl⟩ := Int.eq_ofNat_of_zero_le uq.1
  have hpN : pN ≤ 65535 := by omega
  have hqN : qN ≤ 65535 := by omega
  clear wp wq up uq
  clear hx
  go_enter Try.func3, Try.ntmps3
  go_upto_region 1 with fail
  obtain ⟨w1, ew1⟩ : ∃ w1, w.alloc (.cells #[.slice A L.length c, .int .i64 s, .int .i64 d, .int .i64 deg, .int .i64 bm, .int .i64 nm, .int .i64 dn, .int .i64 at_] 28) = w1 := ⟨_, rfl⟩
  rw [ew1] at HW0 HB0 ⊢
  obtain ⟨g, eg⟩ : ∃ g, w.heap.size = g := ⟨_, rfl⟩
  rw [eg] at HW0 ⊢
  have HG := Lib.hid eg
  clear ew1 eg
  go_wp2_with fail
  refine (aliveQ_any w1).mono ?_
  rintro e w2 ⟨rfl, b2⟩
  dsimp only
  have HB2 := Lib.hid (HB0.out.trans (b2.mono HB0.out.size))
  have Z2 := HW0.out.below b2 HW0.out.lt
  have HZ2 := Lib.hid Z2
  have y0 := Z2.cell 0
  have y1 := Z2.cell 1
  clear Z2 b2 HB0 HW0
  go_wp2_with fail
  refine (great9_any A c L s w2 (HX.out.below HB2.out)).mono ?_
  rintro e w3 ⟨⟨gb, rfl, hgb⟩, b3⟩
  dsimp only
  have HB3 := Lib.hid (HB2.out.trans (b3.mono HB2.out.size))
  clear y0 y1
  cases gb with
  | true =>
    clear hgb
    go_wp2_with fail
    refine (aliveQ_any w3).mono ?_
    rintro e w4 ⟨rfl, b4⟩
    dsimp only
    go_wp2
    go_ret
    exact ⟨rfl, HB3.out.trans (b4.mono HB3.out.size)⟩
  | false =>
    have HSM := Lib.hid (hgb rfl)
    have Z3 := HZ2.out.below b3 HZ2.out.lt
    have HZ3 := Lib.hid Z3
    clear hgb b3 HZ2 HB2 Z3
    have HAR : Hid (GArg w A L) := Lib.hid (HX.out.arg HSM.out)
    have HLN := Lib.hid (pns_len L)
    have HRM : Hid (∀ x ∈ L, x.2.2.2.2.length ≤ x.2.2.2.1) := Lib.hid (fun x hx => (HX.out.room x hx).2.1)
    have HCL : Hid (∀ W, Below w3.heap.size w3 W → ((W.cell? ⟨g, 0, none⟩ = some (.slice A L.length c) ∧ W.cell? ⟨g, 1, none⟩ = some (.int .i64 s)) ∧ (W.cell? ⟨g, 2, none⟩ = some (.int .i64 d) ∧ W.cell? ⟨g, 3, none⟩ = some (.int .i64 deg) ∧ W.cell? ⟨g, 4, none⟩ = some (.int .i64 bm) ∧ W.cell? ⟨g, 5, none⟩ = some (.int .i64 nm) ∧ W.cell? ⟨g, 6, none⟩ = some (.int .i64 dn)) ∧ W.cell? ⟨g, 7, none⟩ = some (.int .i64 at_))) := Lib.hid (fun W h => by
      have z0 := HZ3.out.below h HZ3.out.lt
      exact ⟨⟨z0.cell 0, z0.cell 1⟩, ⟨z0.cell 2, z0.cell 3, z0.cell 4, z0.cell 5, z0.cell 6⟩, z0.cell 7⟩)
    have HUP : Hid (∀ W, Below w3.heap.size w3 W → Below w.heap.size w W) := Lib.hid (fun W h => HB3.out.trans (h.mono HB3.out.size))
    have hL : L.length ≤ 20000 := by have := HSM.out.len; rwa [pns_len] at this
    obtain ⟨⟨y0, y1⟩, ⟨q0, q1, q2, q3, q4⟩, q5⟩ := HCL.out _ (Below.refl _ _)
    by_cases hn : L.length = 0
    case pos =>
      have ez : ((L.length : Int) == 0) = true := by rw [hn]; rfl
      go_wp2_with fail
      refine (aliveQ_any w3).mono ?_
      rintro e w4 ⟨rfl, b4⟩
      dsimp only
      go_wp2
      go_ret
      exact ⟨rfl, HB3.out.trans (b4.mono HB3.out.size)⟩
    have ez : ((L.length : Int) == 0) = false := by rw [beq_eq_false_iff_ne]; omega
    have e1 : IntKind.i64.wrap (pN : Int) = (pN : Int) := IntWalk.i64_in _ (by omega)
    have e2 : IntKind.i64.wrap (qN : Int) = (qN : Int) := IntWalk.i64_in _ (by omega)
    have e3 := rem_intQ pN L.length
    have e4 := rem_intQ qN L.length
    obtain ⟨i, ei⟩ : ∃ i, pN % L.length = i := ⟨_, rfl⟩
    obtain ⟨k, ek⟩ : ∃ k, qN % L.length = k := ⟨_, rfl⟩
    have hi : i < L.length := by rw [← ei]; exact Nat.mod_lt _ (by omega)
    have hk : k < L.length := by rw [← ek]; exact Nat.mod_lt _ (by omega)
    rw [ei] at e3
    rw [ek] at e4
    have e5 : IntKind.i64.wrap (i : Int) = (i : Int) := IntWalk.i64_in _ (by omega)
    have e6 : IntKind.i64.wrap (k : Int) = (k : Int) := IntWalk.i64_in _ (by omega)
    clear ei ek
    have DM := Lib.hid (fun W (h : Below w3.heap.size w3 W) (x y : Int) => dominQ_any A c L s d deg bm nm dn at_ x y W (HAR.out.below (HUP.out W h)) HRM.out)
    have ASK := Lib.hid (fun (x y : Int) => (show askB (pns L) s d deg bm nm dn at_ [x, y] = (checkB (pns L) s d deg bm nm dn && inG L.length at_ && (inG L.length x && inG L.length y)) by unfold askB; simp [pns_len]))
    have hIi : inG L.length (i : Int) = true := decide_eq_true (by omega)
    have hIk : inG L.length (k : Int) = true := decide_eq_true (by omega)
    have hn0 : 0 < L.length := by omega
    go_wp2_with fail
    cases hok : (checkB (pns L) s d deg bm nm dn && inG L.length at_) with
    | false =>
      have a1 : askB (pns L) s d deg bm nm dn at_ [(i : Int), (i : Int)] = false := by rw [ASK.out, hok]; rfl
      have a2 : askB (pns L) s d deg bm nm dn at_ [(i : Int), (k : Int)] = false := by rw [ASK.out, hok]; rfl
      have a3 : askB (pns L) s d deg bm nm dn at_ [at_, (k : Int)] = false := by rw [ASK.out, hok]; rfl
      have D1 := Lib.hid (fun W h => by have := DM.out W h (i : Int) (i : Int); rw [show domB (pns L) s d deg bm nm dn at_ (i : Int) (i : Int) = false by unfold domB; rw [a1]; rfl, a1, show errG false = 1 from rfl] at this; exact this)
      have D2 := Lib.hid (fun W h => by have := DM.out W h (i : Int) (k : Int); rw [show domB (pns L) s d deg bm nm dn at_ (i : Int) (k : Int) = false by unfold domB; rw [a2]; rfl, a2, show errG false = 1 from rfl] at this; exact this)
      have D3 := Lib.hid (fun W h => by have := DM.out W h at_ (k : Int); rw [show domB (pns L) s d deg bm nm dn at_ at_ (k : Int) = false by unfold domB; rw [a3]; rfl, a3, show errG false = 1 from rfl] at this; exact this)
      clear a1 a2 a3 hok
      refine (D1.out _ (Below.refl _ _)).mono ?_
      rintro e w5 ⟨rfl, b5⟩
      dsimp only
      clear y0 y1 q0 q1 q2 q3 q4 q5
      obtain ⟨⟨y0, y1⟩, ⟨q0, q1, q2, q3, q4⟩, q5⟩ := HCL.out _ b5
      go_wp2_with fail
      refine (D2.out _ b5).mono ?_
      rintro e w6 ⟨rfl, b6⟩
      dsimp only
      have HB6 := Lib.hid (b5.trans (b6.mono b5.size))
      clear y0 y1 q0 q1 q2 q3 q4 q5 b5 b6
      obtain ⟨⟨y0, y1⟩, ⟨q0, q1, q2, q3, q4⟩, q5⟩ := HCL.out _ HB6.out
      go_wp2_with fail
      refine (D3.out _ HB6.out).mono ?_
      rintro e w7 ⟨rfl, b7⟩
      dsimp only
      clear y0 y1 q0 q1 q2 q3 q4 q5
      go_wp2
      go_ret
      exact ⟨rfl, HUP.out _ (HB6.out.trans (b7.mono HB6.out.size))⟩
    | true =>
      have hok2 := Bool.and_eq_true_iff.1 hok
      have hin : 0 ≤ at_ ∧ at_ < (L.length : Int) := of_decide_eq_true hok2.2
      have hPG := PG_of hok2.1 HX.out.ok
      have hs : setupB d deg bm nm dn = true := by have := hok2.1; unfold checkB at this; simp only [Bool.and_eq_true] at this; exact this.1
      have hs2 := of_decide_eq_true hs
      obtain ⟨a, rfl⟩ := Int.eq_ofNat_of_zero_le hin.1
      have ha : a < L.length := by omega
      have hln := pns_len L
      have hIa : inG L.length (a : Int) = true := hok2.2
      have a1 : askB (pns L) s d deg bm nm dn (a : Int) [(i : Int), (i : Int)] = true := by rw [ASK.out, hok, hIi]; rfl
      have a2 : askB (pns L) s d deg bm nm dn (a : Int) [(i : Int), (k : Int)] = true := by rw [ASK.out, hok, hIi, hIk]; rfl
      have a3 : askB (pns L) s d deg bm nm dn (a : Int) [(a : Int), (k : Int)] = true := by rw [ASK.out, hok, hIa, hIk]; rfl
      have v1 : domB (pns L) s d deg bm nm dn (a : Int) (i : Int) (i : Int) = true := by unfold domB; rw [a1]; exact ndP_self (n := nm) hPG (m := dn) (by omega) (a := a) (p := i) (by omega) (by omega)
      have v3 : domB (pns L) s d deg bm nm dn (a : Int) (a : Int) (k : Int) = (sameV (pns L) a k || (nm == dn)) := by unfold domB; rw [a3]; exact ndP_own hPG (n := nm) (m := dn) (by omega) (a := a) (k := k) (by omega) (by omega)
      have v2 : sameV (pns L) i k = true → domB (pns L) s d deg bm nm dn (a : Int) (i : Int) (k : Int) = true := fun h => by unfold domB; rw [a2]; exact ndP_same hPG (n := nm) (m := dn) (by omega) (a := a) (i := i) (k := k) (by omega) (by omega) (by omega) h
      obtain ⟨V2, eV2⟩ : ∃ V, domB (pns L) s d deg bm nm dn (a : Int) (i : Int) (k : Int) = V := ⟨_, rfl⟩
      obtain ⟨SA, eSA⟩ : ∃ V, sameV (pns L) i k = V := ⟨_, rfl⟩
      obtain ⟨SO, eSO⟩ : ∃ V, sameV (pns L) a k = V := ⟨_, rfl⟩
      rw [eV2, eSA] at v2
      rw [eSO] at v3
      have D1 := Lib.hid (fun W h => by have := DM.out W h (i : Int) (i : Int); rw [v1, a1, show errG true = 0 from rfl] at this; exact this)
      have D2 := Lib.hid (fun W h => by have := DM.out W h (i : Int) (k : Int); rw [eV2, a2, show errG true = 0 from rfl] at this; exact this)
      have D3 := Lib.hid (fun W h => by have := DM.out W h (a : Int) (k : Int); rw [v3, a3, show errG true = 0 from rfl] at this; exact this)
      -- the vectors
      have hRd := (HAR.out.below HB3.out).rd
      obtain ⟨bb, off, id1, a1', c1, v, a2', c2, o1, rfl, hB, h1, h2, h3, hr1, hr2, hv⟩ := hRd.at_ ha
      obtain ⟨bk, ok, id2, a3', c3, vk, a4', c4, o2, ek, hBk, h1k, h2k, h3k, hr1k, hr2k, hvk⟩ := hRd.at_ hk
      cases ek
      obtain ⟨bo, oo, id3, a5', c5, vi, a6', c6, o3, eo, hBo, h1o, h2o, h3o, hr1o, hr2o, hvo⟩ := hRd.at_ hi
      cases eo
      have E1 := nAt_get (pns_at hv.out)
      have E2 := nAt_get (pns_at hvk.out)
      have E3 := nAt_get (pns_at hvo.out)
      have l1 := hPG.each a (by omega)
      have l2 := hPG.each k (by omega)
      have l3 := hPG.each i (by omega)
      have hdm := hPG.dim
      rw [E1] at l1
      rw [E2] at l2
      rw [E3] at l3
      simp only at l1 l2 l3
      have es1 : eqZ vi vk = SA := by rw [← eSA]; unfold sameV; rw [E2, E3]
      have es2 : eqZ v vk = SO := by rw [← eSO]; unfold sameV; rw [E1, E2]
      have hz3 : w3.heap.size ≤ w3.heap.size := Nat.le_refl _
      have KS : ∀ W, Below w3.heap.size w3 W → W.cell? ⟨g, 0, none⟩ = some (.slice (some ⟨bb, off, none⟩) L.length c) ∧ W.cell? ⟨g, 7, none⟩ = some (.int .i64 (a : Int)) ∧ W.cell? ⟨bb, off + a * 3 + 1, none⟩ = some (.slice a1' v.length c1) ∧ W.cell? ⟨bb, off + k * 3 + 1, none⟩ = some (.slice a3' vk.length c3) ∧ W.cell? ⟨bb, off + i * 3 + 1, none⟩ = some (.slice a5' vi.length c5) := fun W h => by
        have z := HCL.out _ h
        exact ⟨z.1.1, z.2.2, (h.cell (p := ⟨bb, off + a * 3 + 1, none⟩) hB).trans h2, (h.cell (p := ⟨bb, off + k * 3 + 1, none⟩) hBk).trans h2k, (h.cell (p := ⟨bb, off + i * 3 + 1, none⟩) hBo).trans h2o⟩
      have SC : ∀ (x y : List Int) (B1 B2 : Option Addr) (k1 k2 : Nat) (S : Bool), x.length ≤ 64 → y.length ≤ 64 → Rd .i8 w3 w3.heap.size B1 x → Rd .i8 w3 w3.heap.size B2 y → eqZ x y = S → ∀ W, Below w3.heap.size w3 W → Calls Try.prog 7 #[.slice B1 x.length k1, .slice B2 y.length k2] W fun e w' => e = .returned (.bool S) ∧ Below w3.heap.size w3 w' ∧ w'.cell? ⟨g, 0, none⟩ = some (.slice (some ⟨bb, off, none⟩) L.length c) ∧ w'.cell? ⟨g, 7, none⟩ = some (.int .i64 (a : Int)) ∧ w'.cell? ⟨bb, off + a * 3 + 1, none⟩ = some (.slice a1' v.length c1) ∧ w'.cell? ⟨bb, off + k * 3 + 1, none⟩ = some (.slice a3' vk.length c3) ∧ w'.cell? ⟨bb, off + i * 3 + 1, none⟩ = some (.slice a5' vi.length c5) := fun x y B1 B2 k1 k2 S lx ly rx ry hS W h => by
        have := same8Z_any B1 B2 k1 k2 x y W w3.heap.size (rx.below h) (ry.below h) (by omega) (by omega)
        rw [hS] at this
        refine this.mono ?_
        rintro e w' ⟨he, nq, rfl⟩
        have hw := below_drewN h nq
        exact ⟨he, hw, KS _ hw⟩
      have S1 := Lib.hid (SC vi vk a5' a3' c5 c3 SA (by omega) (by omega) hr1o hr1k es1)
      have S2 := Lib.hid (SC v vk a1' a3' c1 c3 SO (by omega) (by omega) hr1 hr1k es2)
      have HKS := Lib.hid KS
      have HV2 := Lib.hid v2
      have x1 : (0 : Int) ≤ (a : Int) := by omega
      have x2 : (a : Int) < (L.length : Int) := by omega
      have x3 : (0 : Int) ≤ (k : Int) := by omega
      have x4 : (k : Int) < (L.length : Int) := by omega
      have x5 : (0 : Int) ≤ (i : Int) := by omega
      have x6 : (i : Int) < (L.length : Int) := by omega
      clear a1 a2 a3 hok hok2 hin hPG hs hs2 hln hIa v1 v2 v3 eV2 eSA eSO hRd hB h1 h2 h3 hr1 hr2 hv hBk h1k h2k h3k hr1k hr2k hvk hBo h1o h2o h3o hr1o hr2o hvo E1 E2 E3 l1 l2 l3 hdm es1 es2 KS SC hz3 hIi hIk
      refine (D1.out _ (Below.refl _ _)).mono ?_
      rintro e w5 ⟨rfl, b5⟩
      dsimp only
      clear y0 y1 q0 q1 q2 q3 q4 q5
      obtain ⟨⟨y0, y1⟩, ⟨q0, q1, q2, q3, q4⟩, q5⟩ := HCL.out _ b5
      go_wp2_with fail
      refine (D2.out _ b5).mono ?_
      rintro e w6 ⟨rfl, b6⟩
      dsimp only
      have HB6 := Lib.hid (b5.trans (b6.mono b5.size))
      clear y0 y1 q0 q1 q2 q3 q4 q5 b5 b6
      obtain ⟨⟨y0, y1⟩, ⟨q0, q1, q2, q3, q4⟩, q5⟩ := HCL.out _ HB6.out
      go_wp2_with fail
      refine (D3.out _ HB6.out).mono ?_
      rintro e w7 ⟨rfl, b7⟩
      dsimp only
      have HB7 := Lib.hid (HB6.out.trans (b7.mono HB6.out.size))
      have hd7 : Below w3.heap.size w3 w7.drew := HB7.out.drew
      clear y0 y1 q0 q1 q2 q3 q4 q5 b7
      obtain ⟨j1, j2, j3, j4, j5⟩ := HKS.out _ hd7
      go_wp2
      go_region_held3 (fun w' => w'.cell? ⟨g, 0, none⟩ = some (.slice (some ⟨bb, off, none⟩) L.length c) ∧ w'.cell? ⟨g, 7, none⟩ = some (.int .i64 (a : Int)) ∧ w'.cell? ⟨bb, off + a * 3 + 1, none⟩ = some (.slice a1' v.length c1) ∧ w'.cell? ⟨bb, off + k * 3 + 1, none⟩ = some (.slice a3' vk.length c3) ∧ w'.cell? ⟨bb, off + i * 3 + 1, none⟩ = some (.slice a5' vi.length c5))
        (first | exact ⟨by with_reducible assumption, by with_reducible assumption, by with_reducible assumption, by with_reducible assumption, by with_reducible assumption⟩)
        (first
          | (go_at_call 7; (with_reducible refine (S1.out _ (by with_reducible assumption)).mono ?_); rintro e w8 ⟨rfl, b8, z1, z2, z3, z4, z5⟩)
          | fail)
      all_goals
        have hd8 : Below w3.heap.size w3 w8.drew := b8.drew
        clear j1 j2 j3 j4 j5 hd7 b8 z1 z2 z3 z4 z5
        obtain ⟨j1, j2, j3, j4, j5⟩ := HKS.out _ hd8
        go_wp2
        go_region_held3 (fun w' => w'.cell? ⟨g, 0, none⟩ = some (.slice (some ⟨bb, off, none⟩) L.length c) ∧ w'.cell? ⟨g, 7, none⟩ = some (.int .i64 (a : Int)) ∧ w'.cell? ⟨bb, off + a * 3 + 1, none⟩ = some (.slice a1' v.length c1) ∧ w'.cell? ⟨bb, off + k * 3 + 1, none⟩ = some (.slice a3' vk.length c3) ∧ w'.cell? ⟨bb, off + i * 3 + 1, none⟩ = some (.slice a5' vi.length c5))
          (first | exact ⟨by with_reducible assumption, by with_reducible assumption, by with_reducible assumption, by with_reducible assumption, by with_reducible assumption⟩)
          (first
            | (go_at_call 7; (with_reducible refine (S2.out _ (by with_reducible assumption)).mono ?_); rintro e w9 ⟨rfl, b9, z1, z2, z3, z4, z5⟩)
            | fail)
        all_goals
          have HB9 := Lib.hid b9
          clear j1 j2 j3 j4 j5 hd8 b9 z1 z2 z3 z4 z5
          obtain ⟨⟨y0, y1⟩, ⟨q0, q1, q2, q3, q4⟩, q5⟩ := HCL.out _ HB9.out
          cases SA with
          | true =>
            have hv2 : V2 = true := HV2.out rfl
            subst hv2
            cases SO with
            | true =>
              go_wp2
              go_ret
              exact ⟨rfl, HUP.out _ HB9.out⟩
            | false =>
              cases hnm : (nm == dn) with
              | true =>
                go_wp2
                go_ret
                exact ⟨rfl, HUP.out _ HB9.out⟩
              | false =>
                go_wp2
                go_ret
                exact ⟨rfl, HUP.out _ HB9.out⟩
          | false =>
            cases V2 with
            | true =>
              cases SO with
              | true =>
                go_wp2
                go_ret
                exact ⟨rfl, HUP.out _ HB9.out⟩
              | false =>
                cases hnm : (nm == dn) with
                | true =>
                  go_wp2
                  go_ret
                  exact ⟨rfl, HUP.out _ HB9.out⟩
                | false =>
                  go_wp2
                  go_ret
                  exact ⟨rfl, HUP.out _ HB9.out⟩
            | false =>
              cases SO with
              | true =>
                go_wp2
                go_ret
                exact ⟨rfl, HUP.out _ HB9.out⟩
              | false =>
                cases hnm : (nm == dn) with
                | true =>
                  go_wp2
                  go_ret
                  exact ⟨rfl, HUP.out _ HB9.out⟩
                | false =>
                  go_wp2
                  go_ret
                  exact ⟨rfl, HUP.out _ HB9.out⟩
end Go.Proofs.Ytjdidlbmgnfcdab
