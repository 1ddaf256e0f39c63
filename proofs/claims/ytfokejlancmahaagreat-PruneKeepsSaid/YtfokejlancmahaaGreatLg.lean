/- The walk of the program's Check. -/
import Derived.Test.YtfokejlancmahaaGreatLf
import Derived.Test.YtfokejlancmahaaGreatKk
import Derived.Deep.RegionHeld3
namespace Go.Proofs.YtfokejlancmahaaGreat
open Go.RowKit
set_option linter.unusedVariables false
/-- What Check asks of a node by itself. -/
def NodeP (G : List Pn) (d deg : Int) (i : Nat) : Prop := ((nAt G i).2.1.length : Int) = d ∧ ((nAt G i).2.2.length : Int) ≤ deg ∧ unlikeB (nAt G i).2.2 i = true
instance (G : List Pn) (d deg : Int) (i : Nat) : Decidable (NodeP G d deg i) := by unfold NodeP; infer_instance
theorem ids_find {G : List Pn} : (idsL G).Nodup ↔ ∀ i, i < G.length → findI G (nAt G i).1 = i := by
  have hat : ∀ i, (h : i < G.length) → (idsL G)[i]'(by unfold idsL; simpa using h) = (nAt G i).1 := fun i h => by
    unfold idsL nAt; simp [List.getElem?_eq_getElem h]
  constructor
  · intro hn i hi
    refine findI_at hi rfl (fun j hj e => ?_)
    have := (List.pairwise_iff_getElem.1 hn) j i (by unfold idsL; simp; omega) (by unfold idsL; simpa using hi) hj
    rw [hat j (by omega), hat i hi] at this
    exact this e
  · intro h
    refine List.pairwise_iff_getElem.2 (fun i j hi hj hij e => ?_)
    have hi' : i < G.length := by unfold idsL at hi; simpa using hi
    have hj' : j < G.length := by unfold idsL at hj; simpa using hj
    rw [hat i hi', hat j hj'] at e
    have h1 := h i hi'
    have h2 := h j hj'
    rw [e, h2] at h1
    omega
theorem checkB_eq (G : List Pn) (s d deg b n m : Int) : checkB G s d deg b n m = (setupB d deg b n m && holdsB G s && idsB G && decide (∀ i, i < G.length → NodeP G d deg i)) := by
  unfold checkB
  rw [Bool.and_assoc, Bool.and_assoc]
  congr 2
  unfold idsB
  rw [← Bool.decide_and, decide_eq_decide]
  constructor
  · intro h
    refine ⟨⟨fun x hx => ?_, ids_find.2 (fun i hi => (h i hi).2.2.2.2)⟩, fun i hi => ⟨(h i hi).2.1, (h i hi).2.2.1, (h i hi).2.2.2.1⟩⟩
    obtain ⟨i, hi, rfl⟩ := List.getElem_of_mem hx
    have := (h i hi).1
    rwa [nAt_get (List.getElem?_eq_getElem hi)] at this
  · rintro ⟨⟨h1, h2⟩, h3⟩ i hi
    exact ⟨h1 _ (nAt_mem hi), (h3 i hi).1, (h3 i hi).2.1, (h3 i hi).2.2, ids_find.1 h2 i hi⟩
set_option maxRecDepth 100000 in
set_option maxHeartbeats 4000000 in
theorem check_any (A : Option Addr) (c : Nat) (L : List Gn) (s d deg b n m : Int) (w : World) (hx : GArg w A L) (hroom : ∀ x ∈ L, x.2.2.2.2.length ≤ x.2.2.2.1) :
    Calls Tryz.prog 87 #[.agg #[.slice A L.length c, .int .i64 s], .agg #[.int .i64 d, .int .i64 deg, .int .i64 b, .int .i64 n, .int .i64 m]] w fun e w' => e = .returned (.bool (checkB (pns L) s d deg b n m)) ∧ Below w.heap.size w w' := by
  have hs : ∀ x ∈ pns L, x.2.2.length ≤ 20000 := fun x h => (hx.sm.at_ h).2
  have hs1 : ∀ x ∈ pns L, x.2.1.length ≤ 20000 := fun x h => (hx.sm.at_ h).1
  have hl : L.length ≤ 20000 := by have := hx.sm.len; rwa [pns_len] at this
  have HX := Lib.hid hx
  have HSM := Lib.hid hs
  have HSM1 := Lib.hid hs1
  have HRM := Lib.hid hroom
  have HPL := Lib.hid (pns_len L)
  have CE := Lib.hid (checkB_eq (pns L) s d deg b n m)
  clear hx hs hs1 hroom
  have W0 := (Whole.new w 24 #[.slice A L.length c, .int .i64 s]).alloc (.cells #[.int .i64 d, .int .i64 deg, .int .i64 b, .int .i64 n, .int .i64 m] 26)
  have W1 : Whole ((w.alloc (.cells #[.slice A L.length c, .int .i64 s] 24)).alloc (.cells #[.int .i64 d, .int .i64 deg, .int .i64 b, .int .i64 n, .int .i64 m] 26)) (w.heap.size + 1) 26 #[.int .i64 d, .int .i64 deg, .int .i64 b, .int .i64 n, .int .i64 m] := by
    have := Whole.new (w.alloc (.cells #[.slice A L.length c, .int .i64 s] 24)) 26 #[.int .i64 d, .int .i64 deg, .int .i64 b, .int .i64 n, .int .i64 m]
    simpa using this
  have B0 : Below w.heap.size w ((w.alloc (.cells #[.slice A L.length c, .int .i64 s] 24)).alloc (.cells #[.int .i64 d, .int .i64 deg, .int .i64 b, .int .i64 n, .int .i64 m] 26)) := below_one (below_one (Below.refl _ _) _) _
  have HW0 := Lib.hid W0
  have HW1 := Lib.hid W1
  have HB0 := Lib.hid B0
  have q0 := W1.cell 0
  have q1 := W1.cell 1
  have q2 := W1.cell 2
  have q3 := W1.cell 3
  have q4 := W1.cell 4
  have RS := Lib.hid (setup_any d deg b n m)
  have RH := Lib.hid (fun W (h : Below w.heap.size w W) => holds_any A c L s W _ h.size (HX.out.rd.below h) hl HSM.out)
  clear W0 W1 B0
  go_enter Tryz.func87, Tryz.ntmps87
  go_wp2_with fail
  obtain ⟨w1, ew1⟩ : ∃ w1, (w.alloc (.cells #[.slice A L.length c, .int .i64 s] 24)).alloc (.cells #[.int .i64 d, .int .i64 deg, .int .i64 b, .int .i64 n, .int .i64 m] 26) = w1 := ⟨_, rfl⟩
  rw [ew1] at HW0 HW1 HB0 ⊢
  obtain ⟨g, eg⟩ : ∃ g, w.heap.size = g := ⟨_, rfl⟩
  rw [eg] at HW0 HW1 ⊢
  have HG := Lib.hid eg
  clear ew1 eg q0 q1 q2 q3 q4
  have HCL : Hid (∀ W, Below w1.heap.size w1 W → W.cell? ⟨g, 0, none⟩ = some (.slice A L.length c) ∧ W.cell? ⟨g, 1, none⟩ = some (.int .i64 s) ∧ W.cell? ⟨g + 1, 0, none⟩ = some (.int .i64 d) ∧ W.cell? ⟨g + 1, 1, none⟩ = some (.int .i64 deg)) := Lib.hid (fun W h => by
    have z0 := HW0.out.below h HW0.out.lt
    have z1 := HW1.out.below h HW1.out.lt
    exact ⟨z0.cell 0, z0.cell 1, z1.cell 0, z1.cell 1⟩)
  refine (RS.out w1).mono ?_
  rintro e w2 ⟨rfl, b2⟩
  obtain ⟨p0, p1, q0, q1⟩ := HCL.out w2 b2
  have HB2 := Lib.hid b2
  clear b2
  dsimp only
  cases hsb : setupB d deg b n m with
  | false =>
    have HF : Hid (checkB (pns L) s d deg b n m = false) := Lib.hid (by rw [CE.out, hsb]; rfl)
    clear hsb
    go_wp2
    go_ret
    exact ⟨retb HF.out.symm, HB0.out.trans (HB2.out.mono HB0.out.size)⟩
  | true =>
    go_wp2_with fail
    refine (RH.out w2 (HB0.out.trans (HB2.out.mono HB0.out.size))).mono ?_
    rintro e w3 ⟨rfl, b3⟩
    have HB3 := Lib.hid (HB2.out.trans (b3.mono HB2.out.size))
    clear b3 p0 p1 q0 q1
    obtain ⟨p0, p1, q0, q1⟩ := HCL.out w3 HB3.out
    dsimp only
    cases hhb : holdsB (pns L) s with
    | false =>
      have HF : Hid (checkB (pns L) s d deg b n m = false) := Lib.hid (by rw [CE.out, hhb]; simp)
      clear hsb hhb
      go_wp2
      go_ret
      exact ⟨retb HF.out.symm, HB0.out.trans (HB3.out.mono HB0.out.size)⟩
    | true =>
      have hL : L.length ≤ 2048 := by have := (holdsB_yes hhb).1; rwa [HPL.out] at this
      go_wp2_with fail
      refine (idsMayBe_any A c L L.length rfl w3 (((HX.out.below (HB0.out.trans (HB3.out.mono HB0.out.size)))).rd) hL HX.out.ok).mono ?_
      rintro e w4 ⟨rfl, b4⟩
      have HB4 := Lib.hid (HB3.out.trans (b4.mono HB3.out.size))
      clear b4 p0 p1 q0 q1
      obtain ⟨p0, p1, q0, q1⟩ := HCL.out w4 HB4.out
      dsimp only
      cases hib : idsB (pns L) with
      | false =>
        have HF : Hid (checkB (pns L) s d deg b n m = false) := Lib.hid (by rw [CE.out, hib]; simp)
        clear hsb hhb hib
        go_wp2
        go_ret
        exact ⟨retb HF.out.symm, HB0.out.trans (HB4.out.mono HB0.out.size)⟩
      | true =>
        have HCK : Hid (checkB (pns L) s d deg b n m = decide (∀ i, i < L.length → NodeP (pns L) d deg i)) := Lib.hid (by rw [CE.out, hsb, hhb, hib, HPL.out]; rfl)
        clear hsb hhb hib RS RH HB2 HB3
        go_wp2
        go_loopw [5, 6, 24] (fun _ _ i wr => ∃ k : Nat, k ≤ L.length ∧ i = .int .i64 k ∧ Hid (Below w1.heap.size w1 wr) ∧ Hid (∀ j, j < k → NodeP (pns L) d deg j)) (fun _ _ i _ => L.length - (intOf i).toNat)
        case atStart => exact ⟨0, by omega, rfl, HB4, Lib.hid (fun j hj => absurd hj (Nat.not_lt_zero _))⟩
        case round =>
          clear p0 p1 q0 q1 HB4
          obtain ⟨k, hk, rfl, HB, HK⟩ := hrel
          obtain ⟨p0, p1, q0, q1⟩ := HCL.out wr HB.out
          by_cases hlt : k < L.length
          · have e1 : decide ((k : Int) < (L.length : Int)) = true := decide_eq_true (by omega)
            have bw : Below w.heap.size w wr := HB0.out.trans (HB.out.mono HB0.out.size)
            obtain ⟨bn, off, id, a1, c1, v, a2, c2, o, rfl, hBb, h1, h2, h3, hr1, hr2, hv⟩ := (HX.out.below bw).rd.at_ hlt
            have x1 : (0 : Int) ≤ (k : Int) := by omega
            have x2 : (k : Int) < (L.length : Int) := by omega
            have EN := Lib.hid (show nAt (pns L) k = (id, v, o) from nAt_get (pns_at hv.out))
            have hol : o.length ≤ 20000 := HSM.out _ (List.mem_of_getElem? (pns_at hv.out))
            have hvl : v.length ≤ 20000 := HSM1.out _ (List.mem_of_getElem? (pns_at hv.out))
            have hc2 : o.length ≤ c2 := HRM.out _ (List.mem_of_getElem? hv.out)
            have HR2 := Lib.hid hr2
            clear hv hr1 hr2 bw
            have hszw := HB.out.size
            have bx : Below wr.heap.size wr (wr.alloc (.cells #[.int .u64 id, .slice a1 v.length c1, .slice a2 o.length c2] 73)) := below_one (Below.refl _ _) _
            obtain ⟨z0, z1, z2, z3⟩ := HCL.out _ (HB.out.trans (bx.mono hszw))
            have HBX := Lib.hid (HB.out.trans (bx.mono hszw))
            have UN := Lib.hid (unlikeOthers_any a2 c2 o _ rfl (k : Int) (wr.alloc (.cells #[.int .u64 id, .slice a1 v.length c1, .slice a2 o.length c2] 73)) wr.heap.size (HR2.out.below bx) (by omega) hc2)
            have EQ : Hid (NodeP (pns L) d deg k ↔ ((v.length : Int) = d ∧ (o.length : Int) ≤ deg ∧ unlikeB o k = true)) := Lib.hid (by unfold NodeP; rw [EN.out])
            obtain ⟨ub, eub⟩ : ∃ ub, unlikeB o k = ub := ⟨_, rfl⟩
            rw [eub] at UN EQ
            clear eub EN bx
            by_cases k1 : (v.length : Int) = d ∧ (o.length : Int) ≤ deg ∧ ub = true
            · have HN : Hid (∀ j, j < k + 1 → NodeP (pns L) d deg j) := fun j hj => by
                rcases Nat.lt_or_ge j k with h | h
                · exact HK.out j h
                · obtain rfl : j = k := by omega
                  exact EQ.out.2 k1
              obtain ⟨rfl, k2, rfl⟩ := k1
              have e2 : ((v.length : Int) != (v.length : Int)) = false := by simp
              have e3 : decide (deg < (o.length : Int)) = false := decide_eq_false (by omega)
              go_wp2_with (go_at_call 141; refine UN.out.mono ?_; rintro e w5 ⟨rfl, nq, rfl⟩)
              exact ⟨⟨k + 1, by omega, by go_num, Lib.hid (below_drewN HBX.out nq), HN⟩, by simp [intOf]; omega⟩
            · have HF : Hid (checkB (pns L) s d deg b n m = false) := Lib.hid (by rw [HCK.out]; exact decide_eq_false (fun q => k1 (EQ.out.1 (q k hlt))))
              by_cases n1 : (v.length : Int) = d
              · have e2 : ((v.length : Int) != d) = false := by rw [bne_eq_false_iff_eq]; exact n1
                by_cases n2 : (o.length : Int) ≤ deg
                · have e3 : decide (deg < (o.length : Int)) = false := decide_eq_false (by omega)
                  cases ub with
                  | true => exact absurd ⟨n1, n2, rfl⟩ k1
                  | false =>
                    clear n1 n2 k1 EQ
                    go_wp2_with (go_at_call 141; refine UN.out.mono ?_; rintro e w5 ⟨rfl, nq, rfl⟩)
                    go_ret
                    exact ⟨retb HF.out.symm, HB0.out.trans ((below_drewN HBX.out nq).mono HB0.out.size)⟩
                · have e3 : decide (deg < (o.length : Int)) = true := decide_eq_true (by omega)
                  clear n1 n2 k1 EQ
                  go_wp2
                  go_ret
                  exact ⟨retb HF.out.symm, HB0.out.trans (HBX.out.mono HB0.out.size)⟩
              · have e2 : ((v.length : Int) != d) = true := by rw [bne_iff_ne]; exact n1
                clear n1 k1 EQ
                go_wp2
                go_ret
                exact ⟨retb HF.out.symm, HB0.out.trans (HBX.out.mono HB0.out.size)⟩
          · obtain rfl : k = L.length := by omega
            have e1 : decide ((L.length : Int) < (L.length : Int)) = false := decide_eq_false (by omega)
            have HF : Hid (checkB (pns L) s d deg b n m = true) := Lib.hid (by rw [HCK.out]; exact decide_eq_true HK.out)
            go_wp2
            go_ret
            exact ⟨retb HF.out.symm, HB0.out.trans (HB.out.mono HB0.out.size)⟩
end Go.Proofs.YtfokejlancmahaaGreat
