/- The walk of the document's Check (layer 9). -/
import Derived.Test.YtfokejlancmahaaGreatKh
import Derived.Test.YtfokejlancmahaaGreatKe
import Derived.Deep.RegionHeld3
namespace Go.Proofs.YtfokejlancmahaaGreat
open Go.RowKit
set_option linter.unusedVariables false
/-- A node that may be, at its place. -/
def NodeOk (G : List Pn) (d deg : Int) (i : Nat) : Prop := (nAt G i).1 ≤ 4611686018427387903 ∧ ((nAt G i).2.1.length : Int) = d ∧ ((nAt G i).2.2.length : Int) ≤ deg ∧ unlikeB (nAt G i).2.2 i = true ∧ findI G (nAt G i).1 = i
instance (G : List Pn) (d deg : Int) (i : Nat) : Decidable (NodeOk G d deg i) := by unfold NodeOk; infer_instance
/-- A graph that may be, for a setup. -/
def checkB (G : List Pn) (s d deg b n m : Int) : Bool := setupB d deg b n m && (holdsB G s && decide (∀ i, i < G.length → NodeOk G d deg i))
set_option maxRecDepth 100000 in
set_option maxHeartbeats 4000000 in
theorem rCheck9_any (A : Option Addr) (c : Nat) (L : List Gn) (s d deg b n m : Int) (w : World) (hx : GArg w A L) :
    Calls Tryz.prog 33 #[.agg #[.slice A L.length c, .int .i64 s], .agg #[.int .i64 d, .int .i64 deg, .int .i64 b, .int .i64 n, .int .i64 m]] w fun e w' => e = .returned (.bool (checkB (pns L) s d deg b n m)) ∧ Below w.heap.size w w' := by
  have hs : ∀ x ∈ pns L, x.2.2.length ≤ 20000 := fun x h => (hx.sm.at_ h).2
  have hs1 : ∀ x ∈ pns L, x.2.1.length ≤ 20000 := fun x h => (hx.sm.at_ h).1
  have hl : L.length ≤ 20000 := by have := hx.sm.len; rwa [pns_len] at this
  have HX := Lib.hid hx
  have HSM := Lib.hid hs
  have HSM1 := Lib.hid hs1
  have HPL := Lib.hid (pns_len L)
  clear hx hs hs1
  have W0 := (Whole.new w 24 #[.slice A L.length c, .int .i64 s]).alloc (.cells #[.int .i64 d, .int .i64 deg, .int .i64 b, .int .i64 n, .int .i64 m] 26)
  have W1 : Whole ((w.alloc (.cells #[.slice A L.length c, .int .i64 s] 24)).alloc (.cells #[.int .i64 d, .int .i64 deg, .int .i64 b, .int .i64 n, .int .i64 m] 26)) (w.heap.size + 1) 26 #[.int .i64 d, .int .i64 deg, .int .i64 b, .int .i64 n, .int .i64 m] := by
    have := Whole.new (w.alloc (.cells #[.slice A L.length c, .int .i64 s] 24)) 26 #[.int .i64 d, .int .i64 deg, .int .i64 b, .int .i64 n, .int .i64 m]
    simpa using this
  have B0 : Below w.heap.size w ((w.alloc (.cells #[.slice A L.length c, .int .i64 s] 24)).alloc (.cells #[.int .i64 d, .int .i64 deg, .int .i64 b, .int .i64 n, .int .i64 m] 26)) := below_one (below_one (Below.refl _ _) _) _
  have HW0 := Lib.hid W0
  have HW1 := Lib.hid W1
  have HB0 := Lib.hid B0
  have RS := Lib.hid (rSetup_any d deg b n m)
  have RH := Lib.hid (fun W (h : Below w.heap.size w W) => rHolds_any A c L s W _ h.size (HX.out.rd.below h) hl HSM.out)
  clear W0 W1 B0
  go_enter Tryz.func33, Tryz.ntmps33
  go_wp2_with fail
  obtain ⟨w1, ew1⟩ : ∃ w1, (w.alloc (.cells #[.slice A L.length c, .int .i64 s] 24)).alloc (.cells #[.int .i64 d, .int .i64 deg, .int .i64 b, .int .i64 n, .int .i64 m] 26) = w1 := ⟨_, rfl⟩
  rw [ew1] at HW0 HW1 HB0 ⊢
  obtain ⟨g, eg⟩ : ∃ g, w.heap.size = g := ⟨_, rfl⟩
  rw [eg] at HW0 HW1 ⊢
  have HG := Lib.hid eg
  clear ew1 eg
  have HCL : Hid (∀ W, Below w1.heap.size w1 W → W.cell? ⟨g, 0, none⟩ = some (.slice A L.length c) ∧ W.cell? ⟨g, 1, none⟩ = some (.int .i64 s) ∧ W.cell? ⟨g + 1, 0, none⟩ = some (.int .i64 d) ∧ W.cell? ⟨g + 1, 1, none⟩ = some (.int .i64 deg)) := Lib.hid (fun W h => by
    have z0 := HW0.out.below h HW0.out.lt
    have z1 := HW1.out.below h HW1.out.lt
    exact ⟨z0.cell 0, z0.cell 1, z1.cell 0, z1.cell 1⟩)
  refine (RS.out w1).mono ?_
  rintro e w2 ⟨rfl, b2⟩
  obtain ⟨p0, p1, q0, q1⟩ := HCL.out w2 b2
  have HB2 := Lib.hid b2
  clear b2
  dsimp only
  cases hsb : setupB d deg b n m with
  | false =>
    have HF : Hid (checkB (pns L) s d deg b n m = false) := Lib.hid (by unfold checkB; rw [hsb]; rfl)
    clear hsb
    go_wp2
    go_ret
    exact ⟨retb HF.out.symm, HB0.out.trans (HB2.out.mono HB0.out.size)⟩
  | true =>
    go_wp2_with fail
    refine (RH.out w2 (HB0.out.trans (HB2.out.mono HB0.out.size))).mono ?_
    rintro e w3 ⟨rfl, b3⟩
    have HB3 := Lib.hid (HB2.out.trans (b3.mono HB2.out.size))
    clear b3 p0 p1 q0 q1
    obtain ⟨p0, p1, q0, q1⟩ := HCL.out w3 HB3.out
    dsimp only
    cases hhb : holdsB (pns L) s with
    | false =>
      have HF : Hid (checkB (pns L) s d deg b n m = false) := Lib.hid (by unfold checkB; rw [hhb]; simp)
      clear hsb hhb
      go_wp2
      go_ret
      exact ⟨retb HF.out.symm, HB0.out.trans (HB3.out.mono HB0.out.size)⟩
    | true =>
      have HCK : Hid (checkB (pns L) s d deg b n m = decide (∀ i, i < L.length → NodeOk (pns L) d deg i)) := Lib.hid (by unfold checkB; rw [hsb, hhb, HPL.out]; rfl)
      clear hsb hhb RS RH HB2
      go_wp2
      go_loopw [5] (fun i wr => ∃ k : Nat, k ≤ L.length ∧ i = .int .i64 k ∧ Hid (Below w1.heap.size w1 wr) ∧ Hid (∀ j, j < k → NodeOk (pns L) d deg j)) (fun i _ => L.length - (intOf i).toNat)
      case atStart => exact ⟨0, by omega, rfl, HB3, Lib.hid (fun j hj => absurd hj (Nat.not_lt_zero _))⟩
      case round =>
        clear p0 p1 q0 q1 HB3
        obtain ⟨k, hk, rfl, HB, HK⟩ := hrel
        obtain ⟨p0, p1, q0, q1⟩ := HCL.out wr HB.out
        by_cases hlt : k < L.length
        · have e1 : decide ((k : Int) < (L.length : Int)) = true := decide_eq_true (by omega)
          have bw : Below w.heap.size w wr := HB0.out.trans (HB.out.mono HB0.out.size)
          obtain ⟨bn, off, id, a1, c1, v, a2, c2, o, rfl, hBb, h1, h2, h3, hr1, hr2, hv⟩ := (HX.out.below bw).rd.at_ hlt
          have x1 : (0 : Int) ≤ (k : Int) := by omega
          have x2 : (k : Int) < (L.length : Int) := by omega
          have EN := Lib.hid (show nAt (pns L) k = (id, v, o) from nAt_get (pns_at hv.out))
          have hol : o.length ≤ 20000 := HSM.out _ (List.mem_of_getElem? (pns_at hv.out))
          have hvl : v.length ≤ 20000 := HSM1.out _ (List.mem_of_getElem? (pns_at hv.out))
          have HR2 := Lib.hid hr2
          clear hv hr1 hr2 bw
          have hszw := HB.out.size
          have bx : Below wr.heap.size wr (wr.alloc (.cells #[.int .u64 id, .slice a1 v.length c1, .slice a2 o.length c2] 73)) := below_one (Below.refl _ _) _
          obtain ⟨z0, z1, z2, z3⟩ := HCL.out _ (HB.out.trans (bx.mono hszw))
          have UN := Lib.hid (fun W (h : Below wr.heap.size wr W) => rUnlike_any a2 c2 o _ rfl (k : Int) W wr.heap.size (HR2.out.below h) (by omega))
          have FI := Lib.hid (fun W (h : Below wr.heap.size wr W) => (by
            have bw2 := HB0.out.trans ((HB.out.trans (h.mono hszw)).mono HB0.out.size)
            exact rFind_any (some ⟨bn, off, none⟩) c L s id W W.heap.size (Nat.le_refl _) ((HX.out.below bw2).rd) hl : Calls Tryz.prog 36 #[.agg #[.slice (some ⟨bn, off, none⟩) L.length c, .int .i64 s], .int .u64 id] W fun e w' => e = .returned (.int .i64 (findI (pns L) id)) ∧ Below W.heap.size W w'))
          have EQ : Hid (NodeOk (pns L) d deg k ↔ (id ≤ 4611686018427387903 ∧ (v.length : Int) = d ∧ (o.length : Int) ≤ deg ∧ unlikeB o k = true ∧ findI (pns L) id = k)) := Lib.hid (by unfold NodeOk; rw [EN.out])
          obtain ⟨fi, efi⟩ : ∃ fi, findI (pns L) id = fi := ⟨_, rfl⟩
          rw [efi] at FI EQ
          obtain ⟨ub, eub⟩ : ∃ ub, unlikeB o k = ub := ⟨_, rfl⟩
          rw [eub] at UN EQ
          clear efi eub EN
          by_cases k1 : id ≤ 4611686018427387903 ∧ (v.length : Int) = d ∧ (o.length : Int) ≤ deg ∧ ub = true ∧ fi = k
          · obtain ⟨k1, k2, k3, rfl, rfl⟩ := k1
            have HN : Hid (∀ j, j < k + 1 → NodeOk (pns L) d deg j) := fun j hj => by
              rcases Nat.lt_or_ge j k with h | h
              · exact HK.out j h
              · obtain rfl : j = k := by omega
                exact EQ.out.2 ⟨k1, k2, k3, rfl, rfl⟩
            have f1 : decide (4611686018427387903 < id) = false := decide_eq_false (by omega)
            have f2 : ((v.length : Int) != d) = false := by rw [bne_eq_false_iff_eq]; exact k2
            have f3 : decide (deg < (o.length : Int)) = false := decide_eq_false (by omega)
            have f5 : ((k : Int) != (k : Int)) = false := by simp
            clear k1 k2 k3 EQ
            go_wp2_with (first
              | (go_at_call 97; refine (UN.out _ bx).mono ?_; rintro e w5 ⟨rfl, nq, rfl⟩; have yy := HCL.out _ (below_drewN (HB.out.trans (bx.mono hszw)) nq); have y0 := yy.1; have y1 := yy.2.1; have y2 := yy.2.2.1; have y3 := yy.2.2.2)
              | (go_at_call 36; refine (FI.out _ (below_drewN bx _)).mono ?_; rintro e w6 ⟨rfl, b6⟩))
            have HB6 := Lib.hid (HB.out.trans (((below_drewN bx nq).trans (b6.mono (below_drewN bx nq).size)).mono hszw))
            clear b6 yy y0 y1 y2 y3 z0 z1 z2 z3 p0 p1 q0 q1 bx
            go_roundw
            case rel => exact ⟨k + 1, by omega, by go_num, HB6, HN⟩
            case measure => simp [intOf]; omega
          · have NO : Hid (¬ NodeOk (pns L) d deg k) := Lib.hid (fun h => k1 (EQ.out.1 h))
            by_cases n1 : id ≤ 4611686018427387903
            · have f1 : decide (4611686018427387903 < id) = false := decide_eq_false (by omega)
              by_cases n2 : (v.length : Int) = d
              · have f2 : ((v.length : Int) != d) = false := by rw [bne_eq_false_iff_eq]; exact n2
                by_cases n3 : (o.length : Int) ≤ deg
                · have f3 : decide (deg < (o.length : Int)) = false := decide_eq_false (by omega)
                  cases ub with
                  | false =>
                    clear n1 n2 n3 k1 EQ
                    go_wp2_with (go_at_call 97; refine (UN.out _ bx).mono ?_; rintro e w5 ⟨rfl, nq, rfl⟩; have yy := HCL.out _ (below_drewN (HB.out.trans (bx.mono hszw)) nq); have y0 := yy.1; have y1 := yy.2.1; have y2 := yy.2.2.1; have y3 := yy.2.2.2)
                    go_ret
                    exact ⟨retb (HCK.out.trans (decide_eq_false (fun q => NO.out (q k hlt)))).symm, HB0.out.trans ((HB.out.trans (Below.mono (below_drewN bx nq) hszw)).mono HB0.out.size)⟩
                  | true =>
                    have f5 : (fi != (k : Int)) = true := by
                      rw [bne_iff_ne]
                      exact fun h => k1 ⟨n1, n2, n3, rfl, h⟩
                    clear n1 n2 n3 k1 EQ
                    go_wp2_with (first
                      | (go_at_call 97; refine (UN.out _ bx).mono ?_; rintro e w5 ⟨rfl, nq, rfl⟩; have yy := HCL.out _ (below_drewN (HB.out.trans (bx.mono hszw)) nq); have y0 := yy.1; have y1 := yy.2.1; have y2 := yy.2.2.1; have y3 := yy.2.2.2)
                      | (go_at_call 36; refine (FI.out _ (below_drewN bx _)).mono ?_; rintro e w6 ⟨rfl, b6⟩))
                    go_ret
                    exact ⟨retb (HCK.out.trans (decide_eq_false (fun q => NO.out (q k hlt)))).symm, HB0.out.trans ((HB.out.trans (Below.mono ((below_drewN bx nq).trans (b6.mono (below_drewN bx nq).size)) hszw)).mono HB0.out.size)⟩
                · have f3 : decide (deg < (o.length : Int)) = true := decide_eq_true (by omega)
                  clear n1 n2 n3 k1 EQ
                  go_wp2
                  go_ret
                  exact ⟨retb (HCK.out.trans (decide_eq_false (fun q => NO.out (q k hlt)))).symm, HB0.out.trans ((HB.out.trans (Below.mono bx hszw)).mono HB0.out.size)⟩
              · have f2 : ((v.length : Int) != d) = true := by rw [bne_iff_ne]; exact n2
                clear n1 n2 k1 EQ
                go_wp2
                go_ret
                exact ⟨retb (HCK.out.trans (decide_eq_false (fun q => NO.out (q k hlt)))).symm, HB0.out.trans ((HB.out.trans (Below.mono bx hszw)).mono HB0.out.size)⟩
            · have f1 : decide (4611686018427387903 < id) = true := decide_eq_true (by omega)
              clear n1 k1 EQ
              go_wp2
              go_ret
              exact ⟨retb (HCK.out.trans (decide_eq_false (fun q => NO.out (q k hlt)))).symm, HB0.out.trans ((HB.out.trans (Below.mono bx hszw)).mono HB0.out.size)⟩
        · obtain rfl : k = L.length := by omega
          have e1 : decide ((L.length : Int) < (L.length : Int)) = false := decide_eq_false (by omega)
          have HF : Hid (decide (∀ i, i < L.length → NodeOk (pns L) d deg i) = true) := Lib.hid (decide_eq_true HK.out)
          go_wp2
          go_ret
          exact ⟨retb (HCK.out.trans HF.out).symm, HB0.out.trans (HB.out.mono HB0.out.size)⟩
end Go.Proofs.YtfokejlancmahaaGreat
