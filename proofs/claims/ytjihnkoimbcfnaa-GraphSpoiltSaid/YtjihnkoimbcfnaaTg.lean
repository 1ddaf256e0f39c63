/- The walk of GraphSpoilt. -/
import Derived.Test.YtjihnkoimbcfnaaAl
import Derived.Deep.RegionHeld3
import Derived.Test.YtjihnkoimbcfnaaKk
import Derived.Test.YtjihnkoimbcfnaaLf
import Derived.Test.YtjihnkoimbcfnaaLg
import Derived.BigQuiet
import Derived.BigRegion
import Derived.IntWalk
import Derived.Deep.RegionLaw
namespace Go.Proofs.Ytjihnkoimbcfnaa
open Go.RowKit
set_option linter.unusedVariables false
structure Chk (G : List Pn) (s d deg b n m : Int) : Prop where
  su : setupB d deg b n m = true
  ho : Holds G s
  nd : ∀ i, i < G.length → NodeOk G d deg i
theorem checkB_yes {G : List Pn} {s d deg b n m : Int} (h : checkB G s d deg b n m = true) : Chk G s d deg b n m := by
  unfold checkB at h
  simp only [Bool.and_eq_true] at h
  exact ⟨h.1, holdsB_yes h.2.1, of_decide_eq_true h.2.2⟩
theorem checkB_of {G : List Pn} {s d deg b n m : Int} (h : Chk G s d deg b n m) : checkB G s d deg b n m = true := by
  unfold checkB
  rw [h.su, show holdsB G s = true from decide_eq_true h.ho, decide_eq_true h.nd]; rfl
theorem checkB_no {G : List Pn} {s d deg b n m : Int} (h : ¬ Chk G s d deg b n m) : checkB G s d deg b n m = false := by
  cases e : checkB G s d deg b n m with
  | false => rfl
  | true => exact absurd (checkB_yes e) h
/-- A node turned. -/
def turnG (G : List Pn) (k : Nat) (x : Pn) : List Pn := G.set k x
theorem turnG_at {G : List Pn} {k j : Nat} {x : Pn} (hk : k < G.length) : nAt (turnG G k x) j = if j = k then x else nAt G j := nAt_set hk
theorem turnG_len (G : List Pn) (k : Nat) (x : Pn) : (turnG G k x).length = G.length := by simp [turnG]
theorem spoilt0 {G : List Pn} {s d deg b n m : Int} {k : Nat} (hk : k < G.length) (id : Int) (v : List Int) : checkB (turnG G k (id, v, [(G.length : Int)])) s d deg b n m = false := checkB_no (fun h => by
  have := h.ho.out (i := k) (by rw [turnG_len]; exact hk) (t := (G.length : Int)) (by unfold outAt; rw [turnG_at hk, if_pos rfl]; simp)
  rw [turnG_len] at this
  omega)
theorem spoilt1 {G : List Pn} {s d deg b n m : Int} {k : Nat} (hk : k < G.length) (id : Int) (v : List Int) : checkB (turnG G k (id, v, [(k : Int)])) s d deg b n m = false := checkB_no (fun h => by
  have := (h.nd k (by rw [turnG_len]; exact hk)).2.2.2.1
  rw [turnG_at hk, if_pos rfl] at this
  have h2 := of_decide_eq_true this
  exact h2.1 k (by simp) rfl)
theorem spoilt2 {G : List Pn} {s d deg b n m : Int} {k : Nat} (hk : k < G.length) (id : Int) (v : List Int) (o : Int) : checkB (turnG G k (id, v, [o, o])) s d deg b n m = false := checkB_no (fun h => by
  have := (h.nd k (by rw [turnG_len]; exact hk)).2.2.2.1
  rw [turnG_at hk, if_pos rfl] at this
  have h2 := of_decide_eq_true this
  simp at h2)
theorem spoilt3 {G : List Pn} {s d deg b n m : Int} {k o : Nat} (hk : k < G.length) (ho : o < G.length) (hne : o ≠ k) (v u : List Int) : checkB (turnG G k ((nAt G o).1, v, u)) s d deg b n m = false := checkB_no (fun h => by
  have h1 := (h.nd k (by rw [turnG_len]; exact hk)).2.2.2.2
  have h2 := (h.nd o (by rw [turnG_len]; exact ho)).2.2.2.2
  rw [turnG_at hk, if_pos rfl] at h1
  rw [turnG_at hk, if_neg hne] at h2
  have h1' : findI (turnG G k ((nAt G o).1, v, u)) (nAt G o).1 = (k : Int) := h1
  rw [h2] at h1'
  omega)
theorem spoilt4 {G : List Pn} {s d deg b n m : Int} {k : Nat} (hk : k < G.length) (id : Int) (v u : List Int) (hv : (v.length : Int) ≠ d) : checkB (turnG G k (id, v, u)) s d deg b n m = false := checkB_no (fun h => by
  have := (h.nd k (by rw [turnG_len]; exact hk)).2.1
  rw [turnG_at hk, if_pos rfl] at this
  exact hv this)
theorem spoilt5 {G : List Pn} {d deg b n m : Int} (hn : 0 < G.length) : checkB G (G.length : Int) d deg b n m = false := checkB_no (fun h => by
  have := h.ho.start hn
  omega)
theorem spoilt6 {G : List Pn} {s d deg b n m : Int} (h : Chk G s d deg b n m) {k : Nat} (hk : k < G.length) : checkB (turnG G k ((nAt G k).1, (nAt G k).2.1, [])) (k : Int) d deg b n m = true := checkB_of (by
  have hl := turnG_len G k ((nAt G k).1, (nAt G k).2.1, [])
  have hid : ∀ j, (nAt (turnG G k ((nAt G k).1, (nAt G k).2.1, [])) j).1 = (nAt G j).1 := fun j => by
    rw [turnG_at hk]; split
    · rename_i e; subst e; rfl
    · rfl
  have hfind : ∀ i, i < G.length → findI (turnG G k ((nAt G k).1, (nAt G k).2.1, [])) (nAt G i).1 = i := fun i hi => by
    refine findI_at (by rw [hl]; exact hi) (hid i) (fun j hj => ?_)
    rw [hid j]
    intro e
    have h1 := (h.nd j (by omega)).2.2.2.2
    have h2 := (h.nd i hi).2.2.2.2
    rw [e, h2] at h1
    omega
  refine ⟨h.su, ⟨by rw [hl]; exact h.ho.1, by omega, by rw [hl]; omega, fun x hx t ht => ?_⟩, fun i hi => ?_⟩
  · rw [hl]
    rcases List.mem_or_eq_of_mem_set hx with hx | rfl
    · exact h.ho.2.2.2 x hx t ht
    · simp at ht
  · rw [hl] at hi
    obtain ⟨n1, n2, n3, n4, n5⟩ := h.nd i hi
    by_cases e : i = k
    · subst e
      unfold NodeOk
      rw [turnG_at hk, if_pos rfl]
      refine ⟨n1, n2, ?_, ?_, hfind i hi⟩
      · have := of_decide_eq_true h.su; simp; omega
      · exact decide_eq_true ⟨by simp, by simp⟩
    · unfold NodeOk
      rw [turnG_at hk, if_neg e]
      exact ⟨n1, n2, n3, n4, hfind i hi⟩)
structure GArgB (w : World) (A : Option Addr) (L : List Gn) : Prop where
  rd : RdG w w.heap.size A L
  s1 : ∀ x ∈ pns L, x.2.1.length ≤ 20000 ∧ x.2.2.length ≤ 20000
  len : L.length ≤ 20000
  ok : ∀ x ∈ pns L, PnOk x
theorem GArgB.below {w w' : World} {A : Option Addr} {L : List Gn} (h : GArgB w A L) (hb : Below w.heap.size w w') : GArgB w' A L := ⟨(h.rd.below hb).more hb.size, h.s1, h.len, h.ok⟩
set_option maxRecDepth 100000 in
set_option maxHeartbeats 4000000 in
theorem check_any2 (A : Option Addr) (c : Nat) (L : List Gn) (s d deg b n m : Int) (w : World) (hx : GArgB w A L) (hroom : ∀ x ∈ L, x.2.2.2.2.length ≤ x.2.2.2.1) :
    Calls Try.prog 15 #[.agg #[.slice A L.length c, .int .i64 s], .agg #[.int .i64 d, .int .i64 deg, .int .i64 b, .int .i64 n, .int .i64 m]] w fun e w' => e = .returned (.bool (checkB (pns L) s d deg b n m)) ∧ Below w.heap.size w w' := by
  have hs : ∀ x ∈ pns L, x.2.2.length ≤ 20000 := fun x h => (hx.s1 x h).2
  have hs1 : ∀ x ∈ pns L, x.2.1.length ≤ 20000 := fun x h => (hx.s1 x h).1
  have hl : L.length ≤ 20000 := hx.len
  have HX := Lib.hid hx
  have HSM := Lib.hid hs
  have HSM1 := Lib.hid hs1
  have HRM := Lib.hid hroom
  have HPL := Lib.hid (pns_len L)
  have CE := Lib.hid (checkB_eq (pns L) s d deg b n m)
  clear hx hs hs1 hroom
  have W0 := (Whole.new w 24 #[.slice A L.length c, .int .i64 s]).alloc (.cells #[.int .i64 d, .int .i64 deg, .int .i64 b, .int .i64 n, .int .i64 m] 26)
  have W1 : Whole ((w.alloc (.cells #[.slice A L.length c, .int .i64 s] 24)).alloc (.cells #[.int .i64 d, .int .i64 deg, .int .i64 b, .int .i64 n, .int .i64 m] 26)) (w.heap.size + 1) 26 #[.int .i64 d, .int .i64 deg, .int .i64 b, .int .i64 n, .int .i64 m] := by
    have := Whole.new (w.alloc (.cells #[.slice A L.length c, .int .i64 s] 24)) 26 #[.int .i64 d, .int .i64 deg, .int .i64 b, .int .i64 n, .int .i64 m]
    simpa using this
  have B0 : Below w.heap.size w ((w.alloc (.cells #[.slice A L.length c, .int .i64 s] 24)).alloc (.cells #[.int .i64 d, .int .i64 deg, .int .i64 b, .int .i64 n, .int .i64 m] 26)) := below_one (below_one (Below.refl _ _) _) _
  have HW0 := Lib.hid W0
  have HW1 := Lib.hid W1
  have HB0 := Lib.hid B0
  have q0 := W1.cell 0
  have q1 := W1.cell 1
  have q2 := W1.cell 2
  have q3 := W1.cell 3
  have q4 := W1.cell 4
  have RS := Lib.hid (setup_any d deg b n m)
  have RH := Lib.hid (fun W (h : Below w.heap.size w W) => holds_any A c L s W _ h.size (HX.out.rd.below h) hl HSM.out)
  clear W0 W1 B0
  go_enter Try.func15, Try.ntmps15
  go_wp2_with fail
  obtain ⟨w1, ew1⟩ : ∃ w1, (w.alloc (.cells #[.slice A L.length c, .int .i64 s] 24)).alloc (.cells #[.int .i64 d, .int .i64 deg, .int .i64 b, .int .i64 n, .int .i64 m] 26) = w1 := ⟨_, rfl⟩
  rw [ew1] at HW0 HW1 HB0 ⊢
  obtain ⟨g, eg⟩ : ∃ g, w.heap.size = g := ⟨_, rfl⟩
  rw [eg] at HW0 HW1 ⊢
  have HG := Lib.hid eg
  clear ew1 eg q0 q1 q2 q3 q4
  have HCL : Hid (∀ W, Below w1.heap.size w1 W → W.cell? ⟨g, 0, none⟩ = some (.slice A L.length c) ∧ W.cell? ⟨g, 1, none⟩ = some (.int .i64 s) ∧ W.cell? ⟨g + 1, 0, none⟩ = some (.int .i64 d) ∧ W.cell? ⟨g + 1, 1, none⟩ = some (.int .i64 deg)) := Lib.hid (fun W h => by
    have z0 := HW0.out.below h HW0.out.lt
    have z1 := HW1.out.below h HW1.out.lt
    exact ⟨z0.cell 0, z0.cell 1, z1.cell 0, z1.cell 1⟩)
  refine (RS.out w1).mono ?_
  rintro e w2 ⟨rfl, b2⟩
  obtain ⟨p0, p1, q0, q1⟩ := HCL.out w2 b2
  have HB2 := Lib.hid b2
  clear b2
  dsimp only
  cases hsb : setupB d deg b n m with
  | false =>
    have HF : Hid (checkB (pns L) s d deg b n m = false) := Lib.hid (by rw [CE.out, hsb]; rfl)
    clear hsb
    go_wp2
    go_ret
    exact ⟨retb HF.out.symm, HB0.out.trans (HB2.out.mono HB0.out.size)⟩
  | true =>
    go_wp2_with fail
    refine (RH.out w2 (HB0.out.trans (HB2.out.mono HB0.out.size))).mono ?_
    rintro e w3 ⟨rfl, b3⟩
    have HB3 := Lib.hid (HB2.out.trans (b3.mono HB2.out.size))
    clear b3 p0 p1 q0 q1
    obtain ⟨p0, p1, q0, q1⟩ := HCL.out w3 HB3.out
    dsimp only
    cases hhb : holdsB (pns L) s with
    | false =>
      have HF : Hid (checkB (pns L) s d deg b n m = false) := Lib.hid (by rw [CE.out, hhb]; simp)
      clear hsb hhb
      go_wp2
      go_ret
      exact ⟨retb HF.out.symm, HB0.out.trans (HB3.out.mono HB0.out.size)⟩
    | true =>
      have hL : L.length ≤ 2048 := by have := (holdsB_yes hhb).1; rwa [HPL.out] at this
      go_wp2_with fail
      refine (idsMayBe_any A c L L.length rfl w3 (((HX.out.below (HB0.out.trans (HB3.out.mono HB0.out.size)))).rd) hL HX.out.ok).mono ?_
      rintro e w4 ⟨rfl, b4⟩
      have HB4 := Lib.hid (HB3.out.trans (b4.mono HB3.out.size))
      clear b4 p0 p1 q0 q1
      obtain ⟨p0, p1, q0, q1⟩ := HCL.out w4 HB4.out
      dsimp only
      cases hib : idsB (pns L) with
      | false =>
        have HF : Hid (checkB (pns L) s d deg b n m = false) := Lib.hid (by rw [CE.out, hib]; simp)
        clear hsb hhb hib
        go_wp2
        go_ret
        exact ⟨retb HF.out.symm, HB0.out.trans (HB4.out.mono HB0.out.size)⟩
      | true =>
        have HCK : Hid (checkB (pns L) s d deg b n m = decide (∀ i, i < L.length → NodeP (pns L) d deg i)) := Lib.hid (by rw [CE.out, hsb, hhb, hib, HPL.out]; rfl)
        clear hsb hhb hib RS RH HB2 HB3
        go_wp2
        go_loopw [5, 6, 24] (fun _ _ i wr => ∃ k : Nat, k ≤ L.length ∧ i = .int .i64 k ∧ Hid (Below w1.heap.size w1 wr) ∧ Hid (∀ j, j < k → NodeP (pns L) d deg j)) (fun _ _ i _ => L.length - (intOf i).toNat)
        case atStart => exact ⟨0, by omega, rfl, HB4, Lib.hid (fun j hj => absurd hj (Nat.not_lt_zero _))⟩
        case round =>
          clear p0 p1 q0 q1 HB4
          obtain ⟨k, hk, rfl, HB, HK⟩ := hrel
          obtain ⟨p0, p1, q0, q1⟩ := HCL.out wr HB.out
          by_cases hlt : k < L.length
          · have e1 : decide ((k : Int) < (L.length : Int)) = true := decide_eq_true (by omega)
            have bw : Below w.heap.size w wr := HB0.out.trans (HB.out.mono HB0.out.size)
            obtain ⟨bn, off, id, a1, c1, v, a2, c2, o, rfl, hBb, h1, h2, h3, hr1, hr2, hv⟩ := (HX.out.below bw).rd.at_ hlt
            have x1 : (0 : Int) ≤ (k : Int) := by omega
            have x2 : (k : Int) < (L.length : Int) := by omega
            have EN := Lib.hid (show nAt (pns L) k = (id, v, o) from nAt_get (pns_at hv.out))
            have hol : o.length ≤ 20000 := HSM.out _ (List.mem_of_getElem? (pns_at hv.out))
            have hvl : v.length ≤ 20000 := HSM1.out _ (List.mem_of_getElem? (pns_at hv.out))
            have hc2 : o.length ≤ c2 := HRM.out _ (List.mem_of_getElem? hv.out)
            have HR2 := Lib.hid hr2
            clear hv hr1 hr2 bw
            have hszw := HB.out.size
            have bx : Below wr.heap.size wr (wr.alloc (.cells #[.int .u64 id, .slice a1 v.length c1, .slice a2 o.length c2] 65)) := below_one (Below.refl _ _) _
            obtain ⟨z0, z1, z2, z3⟩ := HCL.out _ (HB.out.trans (bx.mono hszw))
            have HBX := Lib.hid (HB.out.trans (bx.mono hszw))
            have UN := Lib.hid (unlikeOthers_any a2 c2 o _ rfl (k : Int) (wr.alloc (.cells #[.int .u64 id, .slice a1 v.length c1, .slice a2 o.length c2] 65)) wr.heap.size (HR2.out.below bx) (by omega) hc2)
            have EQ : Hid (NodeP (pns L) d deg k ↔ ((v.length : Int) = d ∧ (o.length : Int) ≤ deg ∧ unlikeB o k = true)) := Lib.hid (by unfold NodeP; rw [EN.out])
            obtain ⟨ub, eub⟩ : ∃ ub, unlikeB o k = ub := ⟨_, rfl⟩
            rw [eub] at UN EQ
            clear eub EN bx
            by_cases k1 : (v.length : Int) = d ∧ (o.length : Int) ≤ deg ∧ ub = true
            · have HN : Hid (∀ j, j < k + 1 → NodeP (pns L) d deg j) := fun j hj => by
                rcases Nat.lt_or_ge j k with h | h
                · exact HK.out j h
                · obtain rfl : j = k := by omega
                  exact EQ.out.2 k1
              obtain ⟨rfl, k2, rfl⟩ := k1
              have e2 : ((v.length : Int) != (v.length : Int)) = false := by simp
              have e3 : decide (deg < (o.length : Int)) = false := decide_eq_false (by omega)
              go_wp2_with (go_at_call 40; refine UN.out.mono ?_; rintro e w5 ⟨rfl, nq, rfl⟩)
              exact ⟨⟨k + 1, by omega, by go_num, Lib.hid (below_drewN HBX.out nq), HN⟩, by simp [intOf]; omega⟩
            · have HF : Hid (checkB (pns L) s d deg b n m = false) := Lib.hid (by rw [HCK.out]; exact decide_eq_false (fun q => k1 (EQ.out.1 (q k hlt))))
              by_cases n1 : (v.length : Int) = d
              · have e2 : ((v.length : Int) != d) = false := by rw [bne_eq_false_iff_eq]; exact n1
                by_cases n2 : (o.length : Int) ≤ deg
                · have e3 : decide (deg < (o.length : Int)) = false := decide_eq_false (by omega)
                  cases ub with
                  | true => exact absurd ⟨n1, n2, rfl⟩ k1
                  | false =>
                    clear n1 n2 k1 EQ
                    go_wp2_with (go_at_call 40; refine UN.out.mono ?_; rintro e w5 ⟨rfl, nq, rfl⟩)
                    go_ret
                    exact ⟨retb HF.out.symm, HB0.out.trans ((below_drewN HBX.out nq).mono HB0.out.size)⟩
                · have e3 : decide (deg < (o.length : Int)) = true := decide_eq_true (by omega)
                  clear n1 n2 k1 EQ
                  go_wp2
                  go_ret
                  exact ⟨retb HF.out.symm, HB0.out.trans (HBX.out.mono HB0.out.size)⟩
              · have e2 : ((v.length : Int) != d) = true := by rw [bne_iff_ne]; exact n1
                clear n1 k1 EQ
                go_wp2
                go_ret
                exact ⟨retb HF.out.symm, HB0.out.trans (HBX.out.mono HB0.out.size)⟩
          · obtain rfl : k = L.length := by omega
            have e1 : decide ((L.length : Int) < (L.length : Int)) = false := decide_eq_false (by omega)
            have HF : Hid (checkB (pns L) s d deg b n m = true) := Lib.hid (by rw [HCK.out]; exact decide_eq_true HK.out)
            go_wp2
            go_ret
            exact ⟨retb HF.out.symm, HB0.out.trans (HB.out.mono HB0.out.size)⟩
theorem RdG.patch {w W : World} {B D gt i : Nat} {T : List Gn} {x' : Gn} (h : RdG w B (some ⟨gt, 0, none⟩) T) (hi : i < T.length) (hD : gt < D)
    (hc : ∀ p, p ≠ i * 3 → p ≠ i * 3 + 1 → p ≠ i * 3 + 2 → W.cell? ⟨gt, p, none⟩ = w.cell? ⟨gt, p, none⟩)
    (h0 : W.cell? ⟨gt, i * 3, none⟩ = some (.int .u64 x'.1)) (h1 : W.cell? ⟨gt, i * 3 + 1, none⟩ = some (.slice x'.2.1.1 x'.2.1.2.2.length x'.2.1.2.1)) (h2 : W.cell? ⟨gt, i * 3 + 2, none⟩ = some (.slice x'.2.2.1 x'.2.2.2.2.length x'.2.2.2.1))
    (hr : ∀ j x, j ≠ i → T[j]? = some x → Rd .i8 W D x.2.1.1 x.2.1.2.2 ∧ Rd .i64 W D x.2.2.1 x.2.2.2.2) (hr' : Rd .i8 W D x'.2.1.1 x'.2.1.2.2 ∧ Rd .i64 W D x'.2.2.1 x'.2.2.2.2) :
    RdG W D (some ⟨gt, 0, none⟩) (T.set i x') := fun _ => by
  obtain ⟨b, off, hA, _, hcs⟩ := h (by omega)
  injection hA with hA
  injection hA with q1 q2
  subst q1
  subst q2
  refine ⟨gt, 0, rfl, hD, fun j hj => ?_⟩
  rw [List.length_set] at hj
  rw [Nat.zero_add]
  by_cases hji : j = i
  · subst hji
    rw [List.getElem?_set_self hi]
    exact ⟨h0, h1, h2, hr'⟩
  · rw [List.getElem?_set_ne (fun e => hji e.symm)]
    obtain ⟨k0, k1, k2, _, _⟩ := hcs j hj
    rw [Nat.zero_add] at k0 k1 k2
    have := hr j _ hji (show T[j]? = some (T[j]?.getD gNil) by simp [List.getElem?_eq_getElem hj])
    exact ⟨(hc _ (by omega) (by omega) (by omega)).trans k0, (hc _ (by omega) (by omega) (by omega)).trans k1, (hc _ (by omega) (by omega) (by omega)).trans k2, this⟩
theorem KTw.other {k : IntKind} {t : TypeId} {w : World} {base b : Nat} {x : Vc} (h : KTw k t w base x) (hne : x.1 ≠ some ⟨b, 0, none⟩) (i : Nat) (u : Value) : KTw k t (w.setCell ⟨b, i, none⟩ u) base x := by
  obtain ⟨h1, ⟨g, hg⟩, h3⟩ := h
  refine ⟨h1, ⟨g, hg⟩, own_turn h3 ((Turn.refl [b] w).setCell (p := ⟨b, i, none⟩) (.inl (by simp)) u) (fun g' hg' hm => ?_)⟩
  rw [List.mem_singleton] at hm
  subst hm
  rw [hg] at hg' hne
  injection hg' with e
  exact hne (by rw [← e])
theorem KTw.whole {w : World} {base : Nat} {x : Vc} (h : KTw .i64 3 w base x) : ∃ g, x.1 = some ⟨g, 0, none⟩ ∧ base ≤ g ∧ Whole w g 3 (cellsI (x.2.2 ++ [77])) := by
  obtain ⟨h1, ⟨g, hg⟩, h3⟩ := h
  rw [hg] at h3
  rcases h3.2 with ⟨h0, _⟩ | ⟨g', cap, cur, e, hb, hh, hc1, hc2, hsz, htk⟩
  · cases h0
  · injection e with e1 e2 e3
    injection e1 with e1
    injection e1 with e1
    subst e1
    refine ⟨g, hg, hb, ?_⟩
    have : cur = cellsI (x.2.2 ++ [77]) := by
      apply Array.ext'
      unfold cellsI
      rw [List.take_of_length_le (by rw [Array.length_toList]; omega)] at htk
      rw [htk]
    rw [this] at hh
    exact hh
theorem twin_block {w : World} {base gt : Nat} {T : List Gn} (h : TwinG w base gt T) (p : Nat) (hp : p < (T.length + 1) * 3) : ∃ cur, Whole w gt 65 cur ∧ p < cur.size := by
  rcases h.row.2 with ⟨h0, _⟩ | ⟨g', cap, cur, e, hb, hh, hc1, hc2, hsz, htk⟩
  · cases h0
  · injection e with e1 e2 e3
    injection e1 with e1
    injection e1 with e1
    subst e1
    exact ⟨cur, hh, by rw [hsz]; omega⟩
theorem rem_int9 (x n : Nat) : Int.tmod (x : Int) (n : Int) = ((x % n : Nat) : Int) := rfl
theorem u16_of_wf9 {n : Int} (h : (Lit.int .u16 n).wf = true) : 0 ≤ n ∧ n ≤ 65535 := by
  have h1 : IntKind.u16.min = 0 := rfl
  have h2 : IntKind.u16.max = 65535 := rfl
  simp only [Lit.wf, Bool.and_eq_true, decide_eq_true_eq] at h
  omega
/-- A twin whose node k is turned, by a store into its row: what it reads as. -/
theorem twin_turn {w W : World} {base gt k : Nat} {T : List Gn} {x' : Gn} (h : TwinG w base gt T) (hk : k < T.length) (f : Nat) (u : Value) (hf : f < 3) (hw : Below w.heap.size w W)
    (h0 : f ≠ 0 → x'.1 = (T[k]?.getD gNil).1) (h1 : f ≠ 1 → x'.2.1 = (T[k]?.getD gNil).2.1) (h2 : f ≠ 2 → x'.2.2 = (T[k]?.getD gNil).2.2)
    (hu : u = if f = 0 then .int .u64 x'.1 else if f = 1 then .slice x'.2.1.1 x'.2.1.2.2.length x'.2.1.2.1 else .slice x'.2.2.1 x'.2.2.2.2.length x'.2.2.2.1)
    (hr' : Rd .i8 (W.setCell ⟨gt, k * 3 + f, none⟩ u) W.heap.size x'.2.1.1 x'.2.1.2.2 ∧ Rd .i64 (W.setCell ⟨gt, k * 3 + f, none⟩ u) W.heap.size x'.2.2.1 x'.2.2.2.2) :
    RdG (W.setCell ⟨gt, k * 3 + f, none⟩ u) W.heap.size (some ⟨gt, 0, none⟩) (T.set k x') := by
  have hT := h.below hw
  obtain ⟨cur, hcur, hcs⟩ := twin_block hT (k * 3 + f) (by omega)
  have hset := hcur.set (k * 3 + f) u
  have hgl := hT.row.lt gt rfl
  obtain ⟨b0, off, hA, _, hcells⟩ := hT.rd (by omega)
  injection hA with hA
  injection hA with q1 q2
  subst q1
  subst q2
  obtain ⟨k0, k1, k2, k3, k4⟩ := hcells k hk
  rw [Nat.zero_add] at k0 k1 k2
  have hoth : ∀ p, p ≠ k * 3 + f → (W.setCell ⟨gt, k * 3 + f, none⟩ u).cell? ⟨gt, p, none⟩ = W.cell? ⟨gt, p, none⟩ := fun p hp => by
    rw [World.cell?_setCell_other _ _ _ _ (fun e => by injection e with e1 e2; omega)]
  have hown : (W.setCell ⟨gt, k * 3 + f, none⟩ u).cell? ⟨gt, k * 3 + f, none⟩ = some u := by
    rw [hset.cell, Array.getElem?_setIfInBounds_self_of_lt hcs]
  refine RdG.patch (x' := x') hT.rd hk hgl.2 (fun p p1 p2 p3 => hoth p (by omega)) ?_ ?_ ?_ (fun j x hj hxj => ?_) hr'
  · by_cases hf0 : f = 0
    · subst hf0; rw [if_pos rfl] at hu; rw [← hu]; exact hown
    · rw [hoth _ (by omega), h0 hf0]; exact k0
  · by_cases hf1 : f = 1
    · subst hf1; rw [if_neg (by decide), if_pos rfl] at hu; rw [← hu]; exact hown
    · rw [hoth _ (by omega), h1 hf1]; exact k1
  · by_cases hf2 : f = 2
    · subst hf2; rw [if_neg (by decide), if_neg (by decide)] at hu; rw [← hu]; exact hown
    · rw [hoth _ (by omega), h2 hf2]; exact k2
  · have hmj := List.mem_of_getElem? hxj
    have z1 := ((hT.to x hmj).set hcur (by decide) (k * 3 + f) u).rd0
    have z2 := ((hT.tv x hmj).set hcur (by decide) (k * 3 + f) u).rd0
    simp only [World.size_setCell] at z1 z2
    exact ⟨z2, z1⟩
theorem twin_keep {w W : World} {base gt k : Nat} {T : List Gn} {x : Gn} (h : TwinG w base gt T) (hk : k < T.length) (f : Nat) (u : Value) (hf : f < 3) (hw : Below w.heap.size w W) (hx : x ∈ T) :
    Rd .i8 (W.setCell ⟨gt, k * 3 + f, none⟩ u) W.heap.size x.2.1.1 x.2.1.2.2 ∧ Rd .i64 (W.setCell ⟨gt, k * 3 + f, none⟩ u) W.heap.size x.2.2.1 x.2.2.2.2 := by
  have hT := h.below hw
  obtain ⟨cur, hcur, hcs⟩ := twin_block hT (k * 3 + f) (by omega)
  have z1 := ((hT.to x hx).set hcur (by decide) (k * 3 + f) u).rd0
  have z2 := ((hT.tv x hx).set hcur (by decide) (k * 3 + f) u).rd0
  simp only [World.size_setCell] at z1 z2
  exact ⟨z2, z1⟩
/-- Node k of a twin without neighbours, and a store into the graph's own box. -/
theorem twin_turn2 {w W : World} {base gt k tb : Nat} {T : List Gn} {id : Int} {a1 x2 : Option Addr} {c1 c2 : Nat} {v oo : List Int} {cs : Array Value} (h : TwinG w base gt T) (hT : T[k]? = some (id, (a1, c1, v), (x2, c2, oo))) (hw : Below w.heap.size w W) (hZ : Whole W tb 24 cs) (hne : tb ≠ gt) (u2 : Value) :
    RdG ((W.setCell ⟨gt, k * 3 + 2, none⟩ (.slice none 0 0)).setCell ⟨tb, 1, none⟩ u2) W.heap.size (some ⟨gt, 0, none⟩) (T.set k (id, (a1, c1, v), (none, 0, []))) := by
  have hT' := h.below hw
  have hk : k < T.length := (List.getElem?_eq_some_iff.1 hT).1
  obtain ⟨cur, hcur, hcs⟩ := twin_block hT' (k * 3 + 2) (by omega)
  have hset := (hcur.set (k * 3 + 2) (.slice none 0 0)).far (a := ⟨tb, 1, none⟩) (fun e => hne e.symm) u2
  have hZ2 := hZ.far (a := ⟨gt, k * 3 + 2, none⟩) hne (.slice none 0 0)
  have hgl := hT'.row.lt gt rfl
  obtain ⟨b0, off, hA, _, hcells⟩ := hT'.rd (by omega)
  injection hA with hA
  injection hA with q1 q2
  subst q1
  subst q2
  have hck := hcells k hk
  rw [hT] at hck
  obtain ⟨k0, k1, k2, k3, k4⟩ := hck
  rw [Nat.zero_add] at k0 k1 k2
  have hoth : ∀ p, p ≠ k * 3 + 2 → ((W.setCell ⟨gt, k * 3 + 2, none⟩ (.slice none 0 0)).setCell ⟨tb, 1, none⟩ u2).cell? ⟨gt, p, none⟩ = W.cell? ⟨gt, p, none⟩ := fun p hp => by
    rw [World.cell?_setCell_other _ _ _ _ (fun e => by injection e with e1 e2; exact hne (by omega)), World.cell?_setCell_other _ _ _ _ (fun e => by injection e with e1 e2; omega)]
  have hrow : ∀ x ∈ T, Rd .i8 ((W.setCell ⟨gt, k * 3 + 2, none⟩ (.slice none 0 0)).setCell ⟨tb, 1, none⟩ u2) W.heap.size x.2.1.1 x.2.1.2.2 ∧ Rd .i64 ((W.setCell ⟨gt, k * 3 + 2, none⟩ (.slice none 0 0)).setCell ⟨tb, 1, none⟩ u2) W.heap.size x.2.2.1 x.2.2.2.2 := fun x hm => by
    have z1 := (((hT'.to x hm).set hcur (by decide) (k * 3 + 2) (.slice none 0 0)).set hZ2 (by decide) 1 u2).rd0
    have z2 := (((hT'.tv x hm).set hcur (by decide) (k * 3 + 2) (.slice none 0 0)).set hZ2 (by decide) 1 u2).rd0
    simp only [World.size_setCell] at z1 z2
    exact ⟨z2, z1⟩
  refine RdG.patch (x' := (id, (a1, c1, v), (none, 0, []))) hT'.rd hk hgl.2 (fun p p1 p2 p3 => hoth p p3) ((hoth _ (by omega)).trans k0) ((hoth _ (by omega)).trans k1) ?_ (fun j x hj hxj => hrow x (List.mem_of_getElem? hxj)) ⟨(hrow _ (List.mem_of_getElem? hT)).1, rd_nil _ _ _⟩
  rw [hset.cell, Array.getElem?_setIfInBounds_self_of_lt hcs]
  rfl
theorem turn_pns {T L : List Gn} (hv : pns T = pns L) (k : Nat) (x' : Gn) : pns (T.set k x') = turnG (pns L) k (pn x') := by
  unfold pns at *
  rw [List.map_set, hv]; rfl
theorem turn_check {W2 w : World} {base gt k : Nat} {T L : List Gn} {x' : Gn} {s d deg bm nm dn : Int} {B : Bool} (hT : TwinG w base gt T) (hv : pns T = pns L) (hTl : T.length = L.length) (sm : GSmall (pns L)) (ok : ∀ x ∈ pns L, PnOk x) (rd : RdG W2 W2.heap.size (some ⟨gt, 0, none⟩) (T.set k x'))
    (h1 : x'.2.1.2.2.length ≤ 20000 ∧ x'.2.2.2.2.length ≤ 20000) (h2 : PnOk (pn x')) (h3 : x'.2.2.2.2.length ≤ x'.2.2.2.1) (hB : checkB (turnG (pns L) k (pn x')) s d deg bm nm dn = B) :
    Calls Try.prog 15 #[.agg #[.slice (some ⟨gt, 0, none⟩) L.length (L.length + 1), .int .i64 s], .agg #[.int .i64 d, .int .i64 deg, .int .i64 bm, .int .i64 nm, .int .i64 dn]] W2 fun e w' => e = .returned (.bool B) ∧ Below W2.heap.size W2 w' := by
  have hl : (T.set k x').length = L.length := by rw [List.length_set]; exact hTl
  have hmem : ∀ y ∈ T.set k x', y ∈ T ∨ y = x' := fun y hy => List.mem_or_eq_of_mem_set hy
  have hL : L.length ≤ 20000 := by have := sm.len; rwa [pns_len] at this
  have hold : ∀ y ∈ T, pn y ∈ pns L := fun y hy => by rw [← hv]; exact List.mem_map.2 ⟨y, hy, rfl⟩
  have ha : GArgB W2 (some ⟨gt, 0, none⟩) (T.set k x') := ⟨rd, fun x hx => by
    obtain ⟨y, hy, rfl⟩ := List.mem_map.1 hx
    rcases hmem y hy with hy | rfl
    · exact sm.at_ (hold y hy)
    · exact h1, by rw [hl]; exact hL, fun x hx => by
    obtain ⟨y, hy, rfl⟩ := List.mem_map.1 hx
    rcases hmem y hy with hy | rfl
    · exact ok _ (hold y hy)
    · exact h2⟩
  have hr : ∀ y ∈ T.set k x', y.2.2.2.2.length ≤ y.2.2.2.1 := fun y hy => by
    rcases hmem y hy with hy | rfl
    · exact twin_room9 hT y hy
    · exact h3
  have := check_any2 (some ⟨gt, 0, none⟩) (L.length + 1) (T.set k x') s d deg bm nm dn W2 ha hr
  rw [hl, turn_pns hv, hB] at this
  exact this
set_option maxRecDepth 100000 in
set_option maxHeartbeats 8000000 in
theorem graphSpoilt_main (A : Option Addr) (c : Nat) (L : List Gn) (s d deg bm nm dn p : Int) (w : World) (hx : GGiven w A L) (wp : (Lit.int .u16 p).wf = true) :
    Calls Try.prog 9 #[.agg #[.slice A L.length c, .int .i64 s], .agg #[.int .i64 d, .int .i64 deg, .int .i64 bm, .int .i64 nm, .int .i64 dn], .int .u16 p] w fun e w' => e = .returned (.bool true) ∧ Below w.heap.size w w' := by
  have B0 : Below w.heap.size w ((w.alloc (.cells #[.slice A L.length c, .int .i64 s] 24)).alloc (.cells #[.int .i64 d, .int .i64 deg, .int .i64 bm, .int .i64 nm, .int .i64 dn] 26)) := below_one (below_one (Below.refl _ _) _) _
  have HW0 := Lib.hid ((Whole.new w 24 #[.slice A L.length c, .int .i64 s]).alloc (.cells #[.int .i64 d, .int .i64 deg, .int .i64 bm, .int .i64 nm, .int .i64 dn] 26))
  have HW1 : Hid (Whole ((w.alloc (.cells #[.slice A L.length c, .int .i64 s] 24)).alloc (.cells #[.int .i64 d, .int .i64 deg, .int .i64 bm, .int .i64 nm, .int .i64 dn] 26)) (w.heap.size + 1) 26 #[.int .i64 d, .int .i64 deg, .int .i64 bm, .int .i64 nm, .int .i64 dn]) := Lib.hid (by
    have := Whole.new (w.alloc (.cells #[.slice A L.length c, .int .i64 s] 24)) 26 #[.int .i64 d, .int .i64 deg, .int .i64 bm, .int .i64 nm, .int .i64 dn]
    simpa using this)
  have HB0 := Lib.hid B0
  have HX := Lib.hid hx
  have up := u16_of_wf9 wp
  obtain ⟨pN, rfl⟩ := Int.eq_ofNat_of_zero_le up.1
  have hpN : pN ≤ 65535 := by omega
  clear B0 hx wp up
  go_enter Try.func9, Try.ntmps9
  go_wp2_with fail
  obtain ⟨w1, ew1⟩ : ∃ w1, (w.alloc (.cells #[.slice A L.length c, .int .i64 s] 24)).alloc (.cells #[.int .i64 d, .int .i64 deg, .int .i64 bm, .int .i64 nm, .int .i64 dn] 26) = w1 := ⟨_, rfl⟩
  rw [ew1] at HW0 HW1 HB0 ⊢
  obtain ⟨g, eg⟩ : ∃ g, w.heap.size = g := ⟨_, rfl⟩
  rw [eg] at HW0 HW1 ⊢
  have HG := Lib.hid eg
  clear ew1 eg
  refine (alive_any w1).mono ?_
  rintro e w2 ⟨rfl, b2⟩
  dsimp only
  have HB2 := Lib.hid (HB0.out.trans (b2.mono HB0.out.size))
  have Z2 := HW0.out.below b2 HW0.out.lt
  have HZ2 := Lib.hid Z2
  have HS2 := Lib.hid (HW1.out.below b2 HW1.out.lt)
  have y0 := Z2.cell 0
  have y1 := Z2.cell 1
  clear Z2 b2 HB0 HW0 HW1
  go_wp2_with fail
  refine (great9_any A c L s w2 (HX.out.below HB2.out)).mono ?_
  rintro e w3 ⟨⟨gb, rfl, hgb⟩, b3⟩
  dsimp only
  have HB3 := Lib.hid (HB2.out.trans (b3.mono HB2.out.size))
  cases gb with
  | true =>
    clear hgb y0 y1
    go_wp2_with fail
    refine (alive_any w3).mono ?_
    rintro e w4 ⟨rfl, b4⟩
    dsimp only
    go_wp2
    go_ret
    exact ⟨rfl, HB3.out.trans (b4.mono HB3.out.size)⟩
  | false =>
    have HSM := Lib.hid (hgb rfl)
    have Z3 := HZ2.out.below b3 HZ2.out.lt
    have S3 := HS2.out.below b3 HS2.out.lt
    have HZ3 := Lib.hid Z3
    have HS3 := Lib.hid S3
    clear hgb y0 y1 b3 HZ2 HB2 HS2
    have HAR : Hid (GArg w A L) := Lib.hid (HX.out.arg HSM.out)
    have y0 := Z3.cell 0
    have y1 := Z3.cell 1
    have q0 := S3.cell 0
    have q1 := S3.cell 1
    have q2 := S3.cell 2
    have q3 := S3.cell 3
    have q4 := S3.cell 4
    clear Z3 S3
    have hL : L.length ≤ 20000 := by have := HSM.out.len; rwa [pns_len] at this
    by_cases hn : 2 ≤ L.length
    case neg =>
      have ez : decide ((L.length : Int) < 2) = true := decide_eq_true (by omega)
      go_wp2_with fail
      refine (alive_any w3).mono ?_
      rintro e w4 ⟨rfl, b4⟩
      dsimp only
      go_wp2
      go_ret
      exact ⟨rfl, HB3.out.trans (b4.mono HB3.out.size)⟩
    have ez : decide ((L.length : Int) < 2) = false := decide_eq_false (by omega)
    have C1 := check_any A c L s d deg bm nm dn w3 (HAR.out.below HB3.out) (fun x hx => (HX.out.room x hx).2.1)
    go_wp2_with fail
    cases hh : checkB (pns L) s d deg bm nm dn with
    | false =>
      rw [hh] at C1
      clear hh
      refine C1.mono ?_
      rintro e w4 ⟨rfl, b4⟩
      dsimp only
      clear C1 y0 y1 q0 q1 q2 q3 q4
      go_wp2_with fail
      refine (alive_any w4).mono ?_
      rintro e w5 ⟨rfl, b5⟩
      dsimp only
      go_wp2
      go_ret
      exact ⟨rfl, HB3.out.trans ((b4.trans (b5.mono b4.size)).mono HB3.out.size)⟩
    | true =>
      have HCK := Lib.hid (checkB_yes hh)
      rw [hh] at C1
      clear hh
      refine C1.mono ?_
      rintro e w4 ⟨rfl, b4⟩
      dsimp only
      have HB4 := Lib.hid (HB3.out.trans (b4.mono HB3.out.size))
      have Z4 := HZ3.out.below b4 HZ3.out.lt
      have HZ4 := Lib.hid Z4
      have HS4 := Lib.hid (HS3.out.below b4 HS3.out.lt)
      have HLN := Lib.hid (pns_len L)
      clear C1 y0 y1 q0 q1 q2 q3 q4 b4 HZ3 HS3 HB3
      have y0 := Z4.cell 0
      have y1 := Z4.cell 1
      clear Z4
      have e1 : IntKind.i64.wrap (pN : Int) = (pN : Int) := IntWalk.i64_in _ (by omega)
      have e3 := rem_int9 pN L.length
      obtain ⟨k, ek⟩ : ∃ k, pN % L.length = k := ⟨_, rfl⟩
      have hk : k < L.length := by rw [← ek]; exact Nat.mod_lt _ (by omega)
      rw [ek] at e3
      have e5 : IntKind.i64.wrap (k : Int) = (k : Int) := IntWalk.i64_in _ (by omega)
      have e6 : IntKind.i64.wrap ((k : Int) + 1) = (k : Int) + 1 := IntWalk.i64_in _ (by omega)
      obtain ⟨o, eo⟩ : ∃ o, (k + 1) % L.length = o := ⟨_, rfl⟩
      have ho : o < L.length := by rw [← eo]; exact Nat.mod_lt _ (by omega)
      have hok : o ≠ k := by
        rw [← eo]
        by_cases h : k + 1 = L.length
        · rw [h, Nat.mod_self]; omega
        · rw [Nat.mod_eq_of_lt (by omega)]; omega
      have e7 : Int.tmod ((k : Int) + 1) (L.length : Int) = (o : Int) := by
        have := rem_int9 (k + 1) L.length
        rw [eo] at this
        exact this
      have e8 : IntKind.i64.wrap (o : Int) = (o : Int) := IntWalk.i64_in _ (by omega)
      have ez2 : ((L.length : Int) == 0) = false := by rw [beq_eq_false_iff_ne]; omega
      clear ek eo
      go_upto_region 5 with fail
      have HB44 : Hid (Below w4.heap.size w4 w4) := Lib.hid (Below.refl _ _)
      go_wp2
      go_loopw [9] (fun i wr => ∃ m : Nat, m ≤ 6 ∧ i = .int .i64 m ∧ Hid (Below w4.heap.size w4 wr)) (fun i _ => 6 - (intOf i).toNat)
      case atStart => exact ⟨0, by omega, rfl, HB44⟩
      case round =>
        clear HB44 y0 y1
        obtain ⟨m, hm, rfl, HB⟩ := hrel
        have Z0 := HZ4.out.below HB.out HZ4.out.lt
        have y0 := Z0.cell 0
        have y1 := Z0.cell 1
        have HBW := Lib.hid (HB4.out.trans (HB.out.mono HB4.out.size))
        clear Z0
        by_cases hlm : m < 6
        · have f1 : decide ((m : Int) < 6) = true := decide_eq_true (by omega)
          clear e1 e3 e6 e7
          go_upto_region 9 with (go_at_call 12; refine (twinGraph_any A c L s wr (HX.out.below HBW.out) HSM.out).mono ?_; rintro e w5 ⟨gt, T, rfl, hgt, hT, hTv, hTl, b5⟩)
          obtain ⟨w6, ew6⟩ : ∃ w6, w5.alloc (.cells #[.slice (some ⟨gt, 0, none⟩) L.length (L.length + 1), .int .i64 s] 24) = w6 := ⟨_, rfl⟩
          obtain ⟨tb, etb⟩ : ∃ tb, w5.heap.size = tb := ⟨_, rfl⟩
          have b6 : Below wr.heap.size wr w6 := by rw [← ew6]; exact below_one b5 _
          have ZT : Whole w6 tb 24 #[.slice (some ⟨gt, 0, none⟩) L.length (L.length + 1), .int .i64 s] := by rw [← ew6, ← etb]; exact Whole.new w5 _ _
          have hT6 : TwinG w6 wr.heap.size gt T := by rw [← ew6]; exact hT.below (below_one (Below.refl _ _) _)
          have hkT : k < T.length := by omega
          obtain ⟨⟨id, ⟨a1, c1, v⟩, ⟨x2, c2, oo⟩⟩, hTk⟩ : ∃ x, T[k]? = some x := ⟨_, List.getElem?_eq_getElem hkT⟩
          have hTkd : T[k]?.getD gNil = (id, (a1, c1, v), (x2, c2, oo)) := by rw [hTk]; rfl
          have hpk : nAt (pns L) k = (id, v, oo) := nAt_get (by rw [← hTv]; exact pns_at hTk)
          have hokk := HX.out.ok _ (nAt_mem (G := pns L) (i := k) (by rw [HLN.out]; exact hk))
          rw [hpk] at hokk
          have hszk := HSM.out.at_ (nAt_mem (G := pns L) (i := k) (by rw [HLN.out]; exact hk))
          rw [hpk] at hszk
          have hne3 : tb ≠ gt := fun e => by
            obtain ⟨cur, hcur, _⟩ := twin_block hT6 0 (by omega)
            have ZT' := ZT
            rw [e] at ZT'
            have h2 := Eq.trans (Eq.symm (show w6.heap[gt]? = _ from hcur)) (show w6.heap[gt]? = _ from ZT')
            injection h2 with h2
            injection h2 with _ h2
            exact absurd h2 (by decide)
          have HT6 := Lib.hid hT6
          have HTV := Lib.hid hTv
          have HTL := Lib.hid hTl
          have HTK := Lib.hid hTk
          have HTKD := Lib.hid hTkd
          have HPK := Lib.hid hpk
          have HOKK := Lib.hid hokk
          have HSZK := Lib.hid hszk
          have HZT := Lib.hid ZT
          have B6 : Hid (Below w4.heap.size w4 w6) := Lib.hid ((HB.out).trans (b6.mono (HB.out).size))
          have htb4 : w4.heap.size ≤ tb := by rw [← etb]; exact Nat.le_trans (HB.out).size b5.size
          have hgt4 : w4.heap.size ≤ gt := Nat.le_trans (HB.out).size (hT6.row.lt gt rfl).1
          have HKC : Hid (∀ f, f < 3 → w6.frozen? ⟨gt, k * 3 + f, none⟩ = false) := Lib.hid (fun f hf => by
            obtain ⟨cur, hcur, _⟩ := twin_block HT6.out 0 (by omega)
            exact hcur.frozen _)
          have HKX : Hid (∀ j, j < L.length → ∃ x, T[j]? = some x ∧ w6.cell? ⟨gt, j * 3, none⟩ = some (.int .u64 x.1) ∧ w6.cell? ⟨gt, j * 3 + 1, none⟩ = some (.slice x.2.1.1 x.2.1.2.2.length x.2.1.2.1) ∧ w6.cell? ⟨gt, j * 3 + 2, none⟩ = some (.slice x.2.2.1 x.2.2.2.2.length x.2.2.2.1)) := Lib.hid (fun j hj => by
            obtain ⟨b0, off, hA, _, hcells⟩ := HT6.out.rd (by have := HTL.out; omega)
            injection hA with hA
            injection hA with q1 q2
            subst q1
            subst q2
            have hjT : j < T.length := by have := HTL.out; omega
            obtain ⟨h1, h2, h3, _, _⟩ := hcells j hjT
            rw [Nat.zero_add] at h1 h2 h3
            exact ⟨_, by simp [List.getElem?_eq_getElem hjT], h1, h2, h3⟩)
          have HFA : Hid (∀ W1, Below w6.heap.size w6 W1 → ∀ f u, ((W1.setCell ⟨gt, f, none⟩ u).cell? ⟨tb, 0, none⟩ = some (.slice (some ⟨gt, 0, none⟩) L.length (L.length + 1)) ∧ (W1.setCell ⟨gt, f, none⟩ u).cell? ⟨tb, 1, none⟩ = some (.int .i64 s)) ∧ ((W1.setCell ⟨gt, f, none⟩ u).cell? ⟨g + 1, 0, none⟩ = some (.int .i64 d) ∧ (W1.setCell ⟨gt, f, none⟩ u).cell? ⟨g + 1, 1, none⟩ = some (.int .i64 deg) ∧ (W1.setCell ⟨gt, f, none⟩ u).cell? ⟨g + 1, 2, none⟩ = some (.int .i64 bm) ∧ (W1.setCell ⟨gt, f, none⟩ u).cell? ⟨g + 1, 3, none⟩ = some (.int .i64 nm) ∧ (W1.setCell ⟨gt, f, none⟩ u).cell? ⟨g + 1, 4, none⟩ = some (.int .i64 dn)) ∧ Below w4.heap.size w4 (W1.setCell ⟨gt, f, none⟩ u)) := Lib.hid (fun W1 h f u => by
            have hb : Below w4.heap.size w4 (W1.setCell ⟨gt, f, none⟩ u) := (B6.out.trans (h.mono B6.out.size)).setCell (p := ⟨gt, f, none⟩) hgt4 u
            have z1 := (HZT.out.below h HZT.out.lt).far (a := ⟨gt, f, none⟩) hne3 u
            have z2 := HS4.out.below hb HS4.out.lt
            exact ⟨⟨z1.cell 0, z1.cell 1⟩, ⟨z2.cell 0, z2.cell 1, z2.cell 2, z2.cell 3, z2.cell 4⟩, hb⟩)
          rw [ew6, etb]
          have t0 := ZT.cell 0
          have t1 := ZT.cell 1
          have u1 : (0 : Int) ≤ (k : Int) := by omega
          have u2 : (k : Int) < (L.length : Int) := by omega
          have kf0 : w6.frozen? ⟨gt, k * 3, none⟩ = false := HKC.out 0 (by omega)
          have kf1 := HKC.out 1 (by omega)
          have kf2 := HKC.out 2 (by omega)
          obtain ⟨_, kxe, kx0, kx1, kx2⟩ := HKX.out k hk
          obtain rfl := Option.some.inj (HTK.out.symm.trans kxe)
          dsimp only at kx0 kx1 kx2
          have Z6 := HZ4.out.below B6.out HZ4.out.lt
          clear y0 y1
          have y0 := Z6.cell 0
          have y1 := Z6.cell 1
          clear b5 hgt hT hTv hTl b6 ZT hT6 ew6 etb hTk hTkd hpk hokk hszk kxe Z6
          clear f1
          rcases (show m = 0 ∨ m = 1 ∨ m = 2 ∨ m = 3 ∨ m = 4 ∨ m = 5 by omega) with hm0 | hm1 | hm2 | hm3 | hm4 | hm5
          · subst hm0
            have HBL : Below w6.heap.size w6 (w6.alloc (.cells #[.int .i64 ((L.length : Int))] 3)) := below_one (Below.refl _ _) _
            have hgl := HT6.out.row.lt gt rfl
            have hro : Rd .i64 ((w6.alloc (.cells #[.int .i64 ((L.length : Int))] 3)).setCell ⟨gt, k * 3 + 2, none⟩ (.slice (some ⟨w6.heap.size, 0, none⟩) 1 1)) (w6.alloc (.cells #[.int .i64 ((L.length : Int))] 3)).heap.size (some ⟨w6.heap.size, 0, none⟩) [(L.length : Int)] := fun _ => by
              have hz := (Whole.new w6 3 #[.int .i64 ((L.length : Int))]).far (a := ⟨gt, k * 3 + 2, none⟩) (fun e => by have := hgl.2; have e' : w6.heap.size = gt := e; omega) (.slice (some ⟨w6.heap.size, 0, none⟩) 1 1)
              refine ⟨w6.heap.size, 0, rfl, by rw [World.size_alloc]; omega, fun j hj => ?_⟩
              rw [Nat.zero_add]
              have hj : j = 0 := by simp at hj; exact hj
              subst hj
              exact hz.cell 0
            have hrd := twin_turn (x' := (id, (a1, c1, v), (some ⟨w6.heap.size, 0, none⟩, 1, [(L.length : Int)]))) HT6.out hkT 2 (.slice (some ⟨w6.heap.size, 0, none⟩) 1 1) (by omega) HBL (fun _ => by rw [HTKD.out]) (fun _ => by rw [HTKD.out]) (fun h => absurd rfl h) rfl ⟨(twin_keep HT6.out hkT 2 (.slice (some ⟨w6.heap.size, 0, none⟩) 1 1) (by omega) HBL (List.mem_of_getElem? HTK.out)).1, hro⟩
            have CC := turn_check (x' := (id, (a1, c1, v), (some ⟨w6.heap.size, 0, none⟩, 1, [(L.length : Int)]))) (s := s) (d := d) (deg := deg) (bm := bm) (nm := nm) (dn := dn) (B := false) HT6.out HTV.out HTL.out HSM.out HX.out.ok (W2 := (w6.alloc (.cells #[.int .i64 ((L.length : Int))] 3)).setCell ⟨gt, k * 3 + 2, none⟩ (.slice (some ⟨w6.heap.size, 0, none⟩) 1 1)) (by rw [World.size_setCell]; exact hrd) ⟨HSZK.out.1, by simp⟩ ⟨HOKK.out.1, HOKK.out.2.1, by intro z hz; simp [pn] at hz; omega⟩ (by simp) (by have := spoilt0 (s := s) (d := d) (deg := deg) (b := bm) (n := nm) (m := dn) (k := k) (G := pns L) (by rw [HLN.out]; exact hk) id v; rw [HLN.out] at this; exact this)
            have g2 := (HBL.cell (World.block_lt_of_cell? w6 _ kx2)).trans kx2
            have gf : (w6.alloc (.cells #[.int .i64 ((L.length : Int))] 3)).frozen? ⟨gt, k * 3 + 2, none⟩ = false := by
              obtain ⟨cur, hcur, _⟩ := twin_block (HT6.out.below HBL) 0 (by omega)
              exact hcur.frozen _
            clear hrd hro hgl
            go_upto_region 22 with fail
            obtain ⟨⟨r0, r1⟩, ⟨r2, r3, r4, r5, r6⟩, rb⟩ := HFA.out _ HBL (k * 3 + 2) (.slice (some ⟨w6.heap.size, 0, none⟩) 1 1)
            clear t0 t1 y0 y1 kx0 kx1 kx2 kf0 kf1 kf2 g2 gf
            go_wp2_with fail
            refine CC.mono ?_
            rintro e w7 ⟨rfl, b7⟩
            dsimp only
            have HBN := Lib.hid (rb.trans (b7.mono rb.size))
            clear r0 r1 r2 r3 r4 r5 r6 rb b7 CC
            go_wp2
            go_roundw
            case rel => exact ⟨1, by omega, by go_num, HBN⟩
            case measure => simp [intOf]
          · subst hm1
            have HBL : Below w6.heap.size w6 (w6.alloc (.cells #[.int .i64 ((k : Int))] 3)) := below_one (Below.refl _ _) _
            have hgl := HT6.out.row.lt gt rfl
            have hro : Rd .i64 ((w6.alloc (.cells #[.int .i64 ((k : Int))] 3)).setCell ⟨gt, k * 3 + 2, none⟩ (.slice (some ⟨w6.heap.size, 0, none⟩) 1 1)) (w6.alloc (.cells #[.int .i64 ((k : Int))] 3)).heap.size (some ⟨w6.heap.size, 0, none⟩) [(k : Int)] := fun _ => by
              have hz := (Whole.new w6 3 #[.int .i64 ((k : Int))]).far (a := ⟨gt, k * 3 + 2, none⟩) (fun e => by have := hgl.2; have e' : w6.heap.size = gt := e; omega) (.slice (some ⟨w6.heap.size, 0, none⟩) 1 1)
              refine ⟨w6.heap.size, 0, rfl, by rw [World.size_alloc]; omega, fun j hj => ?_⟩
              rw [Nat.zero_add]
              have hj : j = 0 := by simp at hj; exact hj
              subst hj
              exact hz.cell 0
            have hrd := twin_turn (x' := (id, (a1, c1, v), (some ⟨w6.heap.size, 0, none⟩, 1, [(k : Int)]))) HT6.out hkT 2 (.slice (some ⟨w6.heap.size, 0, none⟩) 1 1) (by omega) HBL (fun _ => by rw [HTKD.out]) (fun _ => by rw [HTKD.out]) (fun h => absurd rfl h) rfl ⟨(twin_keep HT6.out hkT 2 (.slice (some ⟨w6.heap.size, 0, none⟩) 1 1) (by omega) HBL (List.mem_of_getElem? HTK.out)).1, hro⟩
            have CC := turn_check (x' := (id, (a1, c1, v), (some ⟨w6.heap.size, 0, none⟩, 1, [(k : Int)]))) (s := s) (d := d) (deg := deg) (bm := bm) (nm := nm) (dn := dn) (B := false) HT6.out HTV.out HTL.out HSM.out HX.out.ok (W2 := (w6.alloc (.cells #[.int .i64 ((k : Int))] 3)).setCell ⟨gt, k * 3 + 2, none⟩ (.slice (some ⟨w6.heap.size, 0, none⟩) 1 1)) (by rw [World.size_setCell]; exact hrd) ⟨HSZK.out.1, by simp⟩ ⟨HOKK.out.1, HOKK.out.2.1, by intro z hz; simp [pn] at hz; omega⟩ (by simp) (spoilt1 (by rw [HLN.out]; exact hk) id v)
            have g2 := (HBL.cell (World.block_lt_of_cell? w6 _ kx2)).trans kx2
            have gf : (w6.alloc (.cells #[.int .i64 ((k : Int))] 3)).frozen? ⟨gt, k * 3 + 2, none⟩ = false := by
              obtain ⟨cur, hcur, _⟩ := twin_block (HT6.out.below HBL) 0 (by omega)
              exact hcur.frozen _
            clear hrd hro hgl
            go_upto_region 22 with fail
            obtain ⟨⟨r0, r1⟩, ⟨r2, r3, r4, r5, r6⟩, rb⟩ := HFA.out _ HBL (k * 3 + 2) (.slice (some ⟨w6.heap.size, 0, none⟩) 1 1)
            clear t0 t1 y0 y1 kx0 kx1 kx2 kf0 kf1 kf2 g2 gf
            go_wp2_with fail
            refine CC.mono ?_
            rintro e w7 ⟨rfl, b7⟩
            dsimp only
            have HBN := Lib.hid (rb.trans (b7.mono rb.size))
            clear r0 r1 r2 r3 r4 r5 r6 rb b7 CC
            go_wp2
            go_roundw
            case rel => exact ⟨2, by omega, by go_num, HBN⟩
            case measure => simp [intOf]
          · subst hm2
            have HBL : Below w6.heap.size w6 (w6.alloc (.cells #[.int .i64 ((o : Int)), .int .i64 ((o : Int))] 3)) := below_one (Below.refl _ _) _
            have hgl := HT6.out.row.lt gt rfl
            have hro : Rd .i64 ((w6.alloc (.cells #[.int .i64 ((o : Int)), .int .i64 ((o : Int))] 3)).setCell ⟨gt, k * 3 + 2, none⟩ (.slice (some ⟨w6.heap.size, 0, none⟩) 2 2)) (w6.alloc (.cells #[.int .i64 ((o : Int)), .int .i64 ((o : Int))] 3)).heap.size (some ⟨w6.heap.size, 0, none⟩) [(o : Int), (o : Int)] := fun _ => by
              have hz := (Whole.new w6 3 #[.int .i64 ((o : Int)), .int .i64 ((o : Int))]).far (a := ⟨gt, k * 3 + 2, none⟩) (fun e => by have := hgl.2; have e' : w6.heap.size = gt := e; omega) (.slice (some ⟨w6.heap.size, 0, none⟩) 2 2)
              refine ⟨w6.heap.size, 0, rfl, by rw [World.size_alloc]; omega, fun j hj => ?_⟩
              rw [Nat.zero_add]
              have hj : j < 2 := hj
              match j, hj with
              | 0, _ => exact hz.cell 0
              | 1, _ => exact hz.cell 1
            have hrd := twin_turn (x' := (id, (a1, c1, v), (some ⟨w6.heap.size, 0, none⟩, 2, [(o : Int), (o : Int)]))) HT6.out hkT 2 (.slice (some ⟨w6.heap.size, 0, none⟩) 2 2) (by omega) HBL (fun _ => by rw [HTKD.out]) (fun _ => by rw [HTKD.out]) (fun h => absurd rfl h) rfl ⟨(twin_keep HT6.out hkT 2 (.slice (some ⟨w6.heap.size, 0, none⟩) 2 2) (by omega) HBL (List.mem_of_getElem? HTK.out)).1, hro⟩
            have CC := turn_check (x' := (id, (a1, c1, v), (some ⟨w6.heap.size, 0, none⟩, 2, [(o : Int), (o : Int)]))) (s := s) (d := d) (deg := deg) (bm := bm) (nm := nm) (dn := dn) (B := false) HT6.out HTV.out HTL.out HSM.out HX.out.ok (W2 := (w6.alloc (.cells #[.int .i64 ((o : Int)), .int .i64 ((o : Int))] 3)).setCell ⟨gt, k * 3 + 2, none⟩ (.slice (some ⟨w6.heap.size, 0, none⟩) 2 2)) (by rw [World.size_setCell]; exact hrd) ⟨HSZK.out.1, by simp⟩ ⟨HOKK.out.1, HOKK.out.2.1, by intro z hz; simp [pn] at hz; omega⟩ (by simp) (spoilt2 (by rw [HLN.out]; exact hk) id v _)
            have g2 := (HBL.cell (World.block_lt_of_cell? w6 _ kx2)).trans kx2
            have gf : (w6.alloc (.cells #[.int .i64 ((o : Int)), .int .i64 ((o : Int))] 3)).frozen? ⟨gt, k * 3 + 2, none⟩ = false := by
              obtain ⟨cur, hcur, _⟩ := twin_block (HT6.out.below HBL) 0 (by omega)
              exact hcur.frozen _
            clear hrd hro hgl
            go_upto_region 22 with fail
            obtain ⟨⟨r0, r1⟩, ⟨r2, r3, r4, r5, r6⟩, rb⟩ := HFA.out _ HBL (k * 3 + 2) (.slice (some ⟨w6.heap.size, 0, none⟩) 2 2)
            clear t0 t1 y0 y1 kx0 kx1 kx2 kf0 kf1 kf2 g2 gf
            go_wp2_with fail
            refine CC.mono ?_
            rintro e w7 ⟨rfl, b7⟩
            dsimp only
            have HBN := Lib.hid (rb.trans (b7.mono rb.size))
            clear r0 r1 r2 r3 r4 r5 r6 rb b7 CC
            go_wp2
            go_roundw
            case rel => exact ⟨3, by omega, by go_num, HBN⟩
            case measure => simp [intOf]
          · subst hm3
            obtain ⟨xo, hxo, kxo, _, _⟩ := HKX.out o ho
            have hpo : nAt (pns L) o = pn xo := nAt_get (by rw [← HTV.out]; exact pns_at (L := T) (i := o) (id := xo.1) (a1 := xo.2.1.1) (c1 := xo.2.1.2.1) (v := xo.2.1.2.2) (a2 := xo.2.2.1) (c2 := xo.2.2.2.1) (o := xo.2.2.2.2) hxo)
            have hoo := HX.out.ok _ (nAt_mem (G := pns L) (i := o) (by rw [HLN.out]; exact ho))
            rw [hpo] at hoo
            have hsp := spoilt3 (s := s) (d := d) (deg := deg) (b := bm) (n := nm) (m := dn) (G := pns L) (k := k) (o := o) (by rw [HLN.out]; exact hk) (by rw [HLN.out]; exact ho) hok v oo
            rw [hpo] at hsp
            have hrd := twin_turn (x' := (xo.1, (a1, c1, v), (x2, c2, oo))) HT6.out hkT 0 (.int .u64 xo.1) (by omega) (Below.refl _ _) (fun h => absurd rfl h) (fun _ => by rw [HTKD.out]) (fun _ => by rw [HTKD.out]) rfl (twin_keep (x := (id, (a1, c1, v), (x2, c2, oo))) HT6.out hkT 0 (.int .u64 xo.1) (by omega) (Below.refl _ _) (List.mem_of_getElem? HTK.out))
            have hrm := twin_room9 HT6.out _ (List.mem_of_getElem? HTK.out)
            have CC := turn_check (x' := (xo.1, (a1, c1, v), (x2, c2, oo))) (s := s) (d := d) (deg := deg) (bm := bm) (nm := nm) (dn := dn) (B := false) HT6.out HTV.out HTL.out HSM.out HX.out.ok (W2 := (w6.setCell ⟨gt, k * 3, none⟩ (.int .u64 xo.1)).drew) (by rw [World.size_drew, World.size_setCell]; exact hrd) HSZK.out ⟨hoo.1, HOKK.out.2.1, HOKK.out.2.2⟩ hrm hsp
            clear hrd hoo hsp hpo hrm
            have u3 : (0 : Int) ≤ (o : Int) := by omega
            have u4 : (o : Int) < (L.length : Int) := by omega
            go_upto_region 17 with fail
            go_region
            have SS := HFA.out w6 (Below.refl _ _) (k * 3) (.int .u64 xo.1)
            obtain ⟨⟨r0, r1⟩, ⟨r2, r3, r4, r5, r6⟩, rb⟩ := SS
            clear t0 t1 y0 y1 kx0 kx1 kx2 kf0 kf1 kf2
            go_wp2_with fail
            refine CC.mono ?_
            rintro e w7 ⟨rfl, b7⟩
            dsimp only
            have HBN := Lib.hid (rb.drew.trans (b7.mono rb.drew.size))
            clear r0 r1 r2 r3 r4 r5 r6 rb b7 CC
            go_wp2
            go_roundw
            case rel => exact ⟨4, by omega, by go_num, HBN⟩
            case measure => simp [intOf]
          · subst hm4
            have h4 := (HCK.out.nd k (by rw [HLN.out]; exact hk)).2.1
            have hd := (of_decide_eq_true HCK.out.su).1
            rw [HPK.out] at h4
            dsimp only at h4
            cases v with
            | nil => exact absurd h4 (by simp; omega)
            | cons v0 vt =>
              obtain ⟨hc1, ⟨gv, hgv⟩, _⟩ := HT6.out.tv _ (List.mem_of_getElem? HTK.out)
              obtain rfl : c1 = (v0 :: vt).length + 1 := hc1
              obtain rfl : a1 = some ⟨gv, 0, none⟩ := hgv
              have kz1 : w6.cell? ⟨gt, k * 3 + 1, none⟩ = some (.slice (some ⟨gv, 0, none⟩) (vt.length + 1) (vt.length + 1 + 1)) := kx1
              have hkeep := twin_keep HT6.out hkT 1 (.slice (some ⟨gv, 1, none⟩) vt.length (vt.length + 1)) (by omega) (Below.refl _ _) (List.mem_of_getElem? HTK.out)
              have hv1 : Rd .i8 (w6.setCell ⟨gt, k * 3 + 1, none⟩ (.slice (some ⟨gv, 1, none⟩) vt.length (vt.length + 1))) w6.heap.size (some ⟨gv, 1, none⟩) vt := fun _ => by
                obtain ⟨b, off, hA, hB, hc⟩ := hkeep.1 (by simp)
                injection hA with hA
                injection hA with q1 q2
                subst q1
                subst q2
                refine ⟨gv, 1, rfl, hB, fun j hj => ?_⟩
                have := hc (j + 1) (by simpa using hj)
                rw [show 0 + (j + 1) = 1 + j by omega] at this
                simpa using this
              have hrd := twin_turn (x' := (id, (some ⟨gv, 1, none⟩, vt.length + 1, vt), (x2, c2, oo))) HT6.out hkT 1 (.slice (some ⟨gv, 1, none⟩) vt.length (vt.length + 1)) (by omega) (Below.refl _ _) (fun _ => by rw [HTKD.out]) (fun h => absurd rfl h) (fun _ => by rw [HTKD.out]) rfl ⟨hv1, hkeep.2⟩
              have hrm := twin_room9 HT6.out _ (List.mem_of_getElem? HTK.out)
              have hsz := HSZK.out
              have CC := turn_check (x' := (id, (some ⟨gv, 1, none⟩, vt.length + 1, vt), (x2, c2, oo))) (s := s) (d := d) (deg := deg) (bm := bm) (nm := nm) (dn := dn) (B := false) HT6.out HTV.out HTL.out HSM.out HX.out.ok (W2 := (w6.setCell ⟨gt, k * 3 + 1, none⟩ (.slice (some ⟨gv, 1, none⟩) vt.length (vt.length + 1))).drew) (by rw [World.size_drew, World.size_setCell]; exact hrd) ⟨by have := hsz.1; simp at this; show vt.length ≤ 20000; omega, hsz.2⟩ ⟨HOKK.out.1, fun z hz => HOKK.out.2.1 z (List.mem_cons_of_mem _ hz), HOKK.out.2.2⟩ hrm (spoilt4 (by rw [HLN.out]; exact hk) id vt oo (by simp at h4; omega))
              have f4 : (1 : Int) ≤ (vt.length : Int) + 1 := by omega
              clear hrd hrm hsz hv1 hkeep kx1 h4 hd
              have kx1 := kz1
              clear kz1
              go_upto_region 19 with fail
              go_region
              have SS := HFA.out w6 (Below.refl _ _) (k * 3 + 1) (.slice (some ⟨gv, 1, none⟩) vt.length (vt.length + 1))
              obtain ⟨⟨r0, r1⟩, ⟨r2, r3, r4, r5, r6⟩, rb⟩ := SS
              clear t0 t1 y0 y1 kx0 kx1 kx2 kf0 kf1 kf2
              go_wp2_with fail
              refine CC.mono ?_
              rintro e w7 ⟨rfl, b7⟩
              dsimp only
              have HBN := Lib.hid (rb.drew.trans (b7.mono rb.drew.size))
              clear r0 r1 r2 r3 r4 r5 r6 rb b7 CC
              go_wp2
              go_roundw
              case rel => exact ⟨5, by omega, by go_num, HBN⟩
              case measure => simp [intOf]
          · subst hm5
            have hsp := spoilt5 (d := d) (deg := deg) (b := bm) (n := nm) (m := dn) (G := pns L) (by rw [HLN.out]; omega)
            rw [HLN.out] at hsp
            have hB5 : Below w4.heap.size w4 (w6.setCell ⟨tb, 1, none⟩ (.int .i64 (L.length : Int))) := B6.out.setCell (p := ⟨tb, 1, none⟩) htb4 _
            have hT5 : TwinG (w6.setCell ⟨tb, 1, none⟩ (.int .i64 (L.length : Int))) wr.heap.size gt T := HT6.out.set HZT.out (by decide) (by decide) (by decide) 1 _
            have CC := check_any (some ⟨gt, 0, none⟩) (L.length + 1) T (L.length : Int) d deg bm nm dn (w6.setCell ⟨tb, 1, none⟩ (.int .i64 (L.length : Int))) (twin_arg9 hT5 HTV.out HSM.out HX.out.ok) (twin_room9 hT5)
            rw [HTL.out, HTV.out, hsp] at CC
            have zf := HZT.out.frozen 1
            have z1 := HZT.out.set 1 (.int .i64 (L.length : Int))
            have z2 := HS4.out.below hB5 HS4.out.lt
            have r0 : (w6.setCell ⟨tb, 1, none⟩ (.int .i64 (L.length : Int))).cell? ⟨tb, 0, none⟩ = some (.slice (some ⟨gt, 0, none⟩) L.length (L.length + 1)) := z1.cell 0
            have r1 : (w6.setCell ⟨tb, 1, none⟩ (.int .i64 (L.length : Int))).cell? ⟨tb, 1, none⟩ = some (.int .i64 (L.length : Int)) := z1.cell 1
            have r2 := z2.cell 0
            have r3 := z2.cell 1
            have r4 := z2.cell 2
            have r5 := z2.cell 3
            have r6 := z2.cell 4
            clear hsp hT5 z1 z2
            go_upto_region 22 with fail
            clear t0 t1 y0 y1 kx0 kx1 kx2 kf0 kf1 kf2 zf
            go_wp2_with fail
            refine CC.mono ?_
            rintro e w7 ⟨rfl, b7⟩
            dsimp only
            have HBN := Lib.hid (hB5.trans (b7.mono hB5.size))
            clear r0 r1 r2 r3 r4 r5 r6 b7 CC hB5
            go_wp2
            go_roundw
            case rel => exact ⟨6, by omega, by go_num, HBN⟩
            case measure => simp [intOf]
        · obtain rfl : m = 6 := by omega
          have f1 : decide (((6 : Nat) : Int) < 6) = false := by decide
          clear e1 e3 e6 e7
          go_upto_region 25 with (go_at_call 12; refine (twinGraph_any A c L s wr (HX.out.below HBW.out) HSM.out).mono ?_; rintro e w5 ⟨gt, T, rfl, hgt, hT, hTv, hTl, b5⟩)
          obtain ⟨w6, ew6⟩ : ∃ w6, w5.alloc (.cells #[.slice (some ⟨gt, 0, none⟩) L.length (L.length + 1), .int .i64 s] 24) = w6 := ⟨_, rfl⟩
          obtain ⟨tb, etb⟩ : ∃ tb, w5.heap.size = tb := ⟨_, rfl⟩
          have b6 : Below wr.heap.size wr w6 := by rw [← ew6]; exact below_one b5 _
          have ZT : Whole w6 tb 24 #[.slice (some ⟨gt, 0, none⟩) L.length (L.length + 1), .int .i64 s] := by rw [← ew6, ← etb]; exact Whole.new w5 _ _
          have hT6 : TwinG w6 wr.heap.size gt T := by rw [← ew6]; exact hT.below (below_one (Below.refl _ _) _)
          have hkT : k < T.length := by omega
          obtain ⟨⟨id, ⟨a1, c1, v⟩, ⟨x2, c2, oo⟩⟩, hTk⟩ : ∃ x, T[k]? = some x := ⟨_, List.getElem?_eq_getElem hkT⟩
          have hTkd : T[k]?.getD gNil = (id, (a1, c1, v), (x2, c2, oo)) := by rw [hTk]; rfl
          have hpk : nAt (pns L) k = (id, v, oo) := nAt_get (by rw [← hTv]; exact pns_at hTk)
          have hokk := HX.out.ok _ (nAt_mem (G := pns L) (i := k) (by rw [HLN.out]; exact hk))
          rw [hpk] at hokk
          have hszk := HSM.out.at_ (nAt_mem (G := pns L) (i := k) (by rw [HLN.out]; exact hk))
          rw [hpk] at hszk
          have hne3 : tb ≠ gt := fun e => by
            obtain ⟨cur, hcur, _⟩ := twin_block hT6 0 (by omega)
            have ZT' := ZT
            rw [e] at ZT'
            have h2 := Eq.trans (Eq.symm (show w6.heap[gt]? = _ from hcur)) (show w6.heap[gt]? = _ from ZT')
            injection h2 with h2
            injection h2 with _ h2
            exact absurd h2 (by decide)
          have HT6 := Lib.hid hT6
          have HTV := Lib.hid hTv
          have HTL := Lib.hid hTl
          have HTK := Lib.hid hTk
          have HTKD := Lib.hid hTkd
          have HPK := Lib.hid hpk
          have HOKK := Lib.hid hokk
          have HSZK := Lib.hid hszk
          have HZT := Lib.hid ZT
          have B6 : Hid (Below w4.heap.size w4 w6) := Lib.hid ((HB.out).trans (b6.mono (HB.out).size))
          have htb4 : w4.heap.size ≤ tb := by rw [← etb]; exact Nat.le_trans (HB.out).size b5.size
          have hgt4 : w4.heap.size ≤ gt := Nat.le_trans (HB.out).size (hT6.row.lt gt rfl).1
          have HKC : Hid (∀ f, f < 3 → w6.frozen? ⟨gt, k * 3 + f, none⟩ = false) := Lib.hid (fun f hf => by
            obtain ⟨cur, hcur, _⟩ := twin_block HT6.out 0 (by omega)
            exact hcur.frozen _)
          have HKX : Hid (∀ j, j < L.length → ∃ x, T[j]? = some x ∧ w6.cell? ⟨gt, j * 3, none⟩ = some (.int .u64 x.1) ∧ w6.cell? ⟨gt, j * 3 + 1, none⟩ = some (.slice x.2.1.1 x.2.1.2.2.length x.2.1.2.1) ∧ w6.cell? ⟨gt, j * 3 + 2, none⟩ = some (.slice x.2.2.1 x.2.2.2.2.length x.2.2.2.1)) := Lib.hid (fun j hj => by
            obtain ⟨b0, off, hA, _, hcells⟩ := HT6.out.rd (by have := HTL.out; omega)
            injection hA with hA
            injection hA with q1 q2
            subst q1
            subst q2
            have hjT : j < T.length := by have := HTL.out; omega
            obtain ⟨h1, h2, h3, _, _⟩ := hcells j hjT
            rw [Nat.zero_add] at h1 h2 h3
            exact ⟨_, by simp [List.getElem?_eq_getElem hjT], h1, h2, h3⟩)
          have HFA : Hid (∀ W1, Below w6.heap.size w6 W1 → ∀ f u, ((W1.setCell ⟨gt, f, none⟩ u).cell? ⟨tb, 0, none⟩ = some (.slice (some ⟨gt, 0, none⟩) L.length (L.length + 1)) ∧ (W1.setCell ⟨gt, f, none⟩ u).cell? ⟨tb, 1, none⟩ = some (.int .i64 s)) ∧ ((W1.setCell ⟨gt, f, none⟩ u).cell? ⟨g + 1, 0, none⟩ = some (.int .i64 d) ∧ (W1.setCell ⟨gt, f, none⟩ u).cell? ⟨g + 1, 1, none⟩ = some (.int .i64 deg) ∧ (W1.setCell ⟨gt, f, none⟩ u).cell? ⟨g + 1, 2, none⟩ = some (.int .i64 bm) ∧ (W1.setCell ⟨gt, f, none⟩ u).cell? ⟨g + 1, 3, none⟩ = some (.int .i64 nm) ∧ (W1.setCell ⟨gt, f, none⟩ u).cell? ⟨g + 1, 4, none⟩ = some (.int .i64 dn)) ∧ Below w4.heap.size w4 (W1.setCell ⟨gt, f, none⟩ u)) := Lib.hid (fun W1 h f u => by
            have hb : Below w4.heap.size w4 (W1.setCell ⟨gt, f, none⟩ u) := (B6.out.trans (h.mono B6.out.size)).setCell (p := ⟨gt, f, none⟩) hgt4 u
            have z1 := (HZT.out.below h HZT.out.lt).far (a := ⟨gt, f, none⟩) hne3 u
            have z2 := HS4.out.below hb HS4.out.lt
            exact ⟨⟨z1.cell 0, z1.cell 1⟩, ⟨z2.cell 0, z2.cell 1, z2.cell 2, z2.cell 3, z2.cell 4⟩, hb⟩)
          rw [ew6, etb]
          have t0 := ZT.cell 0
          have t1 := ZT.cell 1
          have u1 : (0 : Int) ≤ (k : Int) := by omega
          have u2 : (k : Int) < (L.length : Int) := by omega
          have kf0 : w6.frozen? ⟨gt, k * 3, none⟩ = false := HKC.out 0 (by omega)
          have kf1 := HKC.out 1 (by omega)
          have kf2 := HKC.out 2 (by omega)
          obtain ⟨_, kxe, kx0, kx1, kx2⟩ := HKX.out k hk
          obtain rfl := Option.some.inj (HTK.out.symm.trans kxe)
          dsimp only at kx0 kx1 kx2
          have Z6 := HZ4.out.below B6.out HZ4.out.lt
          clear y0 y1
          have y0 := Z6.cell 0
          have y1 := Z6.cell 1
          clear b5 hgt hT hTv hTl b6 ZT hT6 ew6 etb hTk hTkd hpk hokk hszk kxe Z6
          have hsp := spoilt6 HCK.out (k := k) (by rw [HLN.out]; exact hk)
          rw [HPK.out] at hsp
          have hB5 : Below w4.heap.size w4 ((w6.setCell ⟨gt, k * 3 + 2, none⟩ (.slice none 0 0)).setCell ⟨tb, 1, none⟩ (.int .i64 (k : Int))) := (B6.out.setCell (p := ⟨gt, k * 3 + 2, none⟩) hgt4 _).setCell (p := ⟨tb, 1, none⟩) htb4 _
          have hrd := twin_turn2 HT6.out HTK.out (Below.refl _ _) HZT.out hne3 (.int .i64 (k : Int))
          have CC := turn_check (x' := (id, (a1, c1, v), (none, 0, []))) (s := (k : Int)) (d := d) (deg := deg) (bm := bm) (nm := nm) (dn := dn) (B := true) HT6.out HTV.out HTL.out HSM.out HX.out.ok (W2 := (w6.setCell ⟨gt, k * 3 + 2, none⟩ (.slice none 0 0)).setCell ⟨tb, 1, none⟩ (.int .i64 (k : Int))) (by rw [World.size_setCell, World.size_setCell]; exact hrd) ⟨HSZK.out.1, by simp⟩ ⟨HOKK.out.1, HOKK.out.2.1, by intro z hz; simp [pn] at hz⟩ (by simp) hsp
          have z0 := HZT.out.far (a := ⟨gt, k * 3 + 2, none⟩) hne3 (.slice none 0 0)
          have s0 := z0.cell 0
          have s1 := z0.cell 1
          have sf := z0.frozen 1
          have z1 := z0.set 1 (.int .i64 (k : Int))
          have z2 := HS4.out.below hB5 HS4.out.lt
          have r0 : ((w6.setCell ⟨gt, k * 3 + 2, none⟩ (.slice none 0 0)).setCell ⟨tb, 1, none⟩ (.int .i64 (k : Int))).cell? ⟨tb, 0, none⟩ = some (.slice (some ⟨gt, 0, none⟩) L.length (L.length + 1)) := z1.cell 0
          have r1 : ((w6.setCell ⟨gt, k * 3 + 2, none⟩ (.slice none 0 0)).setCell ⟨tb, 1, none⟩ (.int .i64 (k : Int))).cell? ⟨tb, 1, none⟩ = some (.int .i64 (k : Int)) := z1.cell 1
          have r2 := z2.cell 0
          have r3 := z2.cell 1
          have r4 := z2.cell 2
          have r5 := z2.cell 3
          have r6 := z2.cell 4
          clear hsp hrd z0 z1 z2
          go_wp2_with fail
          refine CC.mono ?_
          rintro e w7 ⟨rfl, b7⟩
          dsimp only
          go_wp2
          go_ret
          exact ⟨rfl, HB4.out.trans ((hB5.trans (b7.mono hB5.size)).mono HB4.out.size)⟩
end Go.Proofs.Ytjihnkoimbcfnaa
