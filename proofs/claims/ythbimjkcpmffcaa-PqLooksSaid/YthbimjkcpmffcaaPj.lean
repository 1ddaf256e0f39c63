/- The walk of the document's Look (layer 8). -/
import Derived.Test.YthbimjkcpmffcaaPi
import Derived.Test.YthbimjkcpmffcaaRt
namespace Go.Proofs.Ythbimjkcpmffcaa
open Go.RowKit
set_option linter.unusedVariables false
/-- A table as an argument. -/
structure TArg (w : World) (A : Option Addr) (T : List Vc) : Prop where
  rd : RdT w w.heap.size A T
  len : T.length ≤ 1048576
  each : ∀ v ∈ vecs T, v.length ≤ 1048576
theorem TArg.below {w w' : World} {A : Option Addr} {T : List Vc} (h : TArg w A T) (hb : Below w.heap.size w w') : TArg w' A T := ⟨(h.rd.below hb).more hb.size, h.len, h.each⟩
def lookB (t : List (List Int)) (code : List Int) : Bool := decide (lookOk t code)
theorem lookB_len {t : List (List Int)} {code : List Int} (h : ¬ code.length = t.length) : lookB t code = false := decide_eq_false (fun k => h k.1)
theorem lookB_at {t : List (List Int)} {code : List Int} {p : Nat} (hp : p < t.length) (h : ¬ cAt code p < (tAt t p).length) : lookB t code = false := decide_eq_false (fun k => h (k.2 p hp))
theorem lookB_mk {t : List (List Int)} {code : List Int} (h1 : code.length = t.length) (h2 : ∀ p, p < t.length → cAt code p < (tAt t p).length) : lookB t code = true := decide_eq_true ⟨h1, h2⟩
theorem lookA_no {t : List (List Int)} {code : List Int} (h : lookB t code = false) : lookA t code = 0 := if_neg (of_decide_eq_false h)
theorem lookA_yes {t : List (List Int)} {code : List Int} (h : lookB t code = true) : lookA t code = lookK t code t.length := if_pos (of_decide_eq_true h)
theorem vecs_tAt {L : List Vc} {i : Nat} {a : Option Addr} {c : Nat} {v : List Int} (h : L[i]? = some (a, c, v)) : tAt (vecs L) i = v := by unfold tAt; rw [vecs_at h]; rfl
set_option maxRecDepth 100000 in
set_option maxHeartbeats 2000000 in
theorem rLook_any (A : Option Addr) (c : Nat) (T : List Vc) (B : Option Addr) (d : Nat) (code : List Int) (w : World) (hx : TArg w A T) (hy : CArg w B code) :
    Calls Try.prog 26 #[.slice A T.length c, .slice B code.length d] w fun e w' => e = .returned (.tuple #[.int .i64 (lookA (vecs T) code), .int .i64 (errE (lookB (vecs T) code))]) ∧ Below w.heap.size w w' := by
  have hlen := hx.len
  have hcl := hy.len
  have HX := Lib.hid hx
  have HY := Lib.hid hy
  have HL := Lib.hid (vecs_len T)
  clear hx hy
  by_cases hne : code.length = T.length
  · have e1 : ((code.length : Int) != (T.length : Int)) = false := by simp; omega
    have HC := Lib.hid hne
    clear hne
    go_enter Try.func26, Try.ntmps26
    go_wp2
    go_loopw [6, 7] (fun s i wr => ∃ k nq : Nat, k ≤ T.length ∧ i = .int .i64 k ∧ s = .int .i64 (lookK (vecs T) code k) ∧ Hid (wr = w.drewN nq) ∧ Hid (∀ q, q < k → cAt code q < (tAt (vecs T) q).length)) (fun _ i _ => T.length - (intOf i).toNat)
    case atStart => exact ⟨0, 0, by omega, rfl, rfl, rfl, (fun q hq => absurd hq (Nat.not_lt_zero _) : ∀ q, q < 0 → cAt code q < (tAt (vecs T) q).length)⟩
    case round =>
      obtain ⟨k, nq0, hk, rfl, rfl, hwr, HQ⟩ := hrel
      have bw : Below w.heap.size w wr := by rw [hwr.out]; exact below_drewN (Below.refl _ _) nq0
      by_cases hlt : k < T.length
      · have eL : decide ((k : Int) < (T.length : Int)) = true := decide_eq_true (by omega)
        obtain ⟨b, off, a1, c1, v, rfl, hBk, hck, hrd, hv1⟩ := (HX.out.below bw).rd.at_ hlt
        obtain ⟨cb, co, x, rfl, hBc, hcc, hx255, hxv⟩ := (HY.out.below bw).at_ (i := k) (by rw [HC.out]; exact hlt)
        have EV := Lib.hid (vecs_tAt hv1.out)
        have hvl := HX.out.each v (List.mem_of_getElem? (vecs_at hv1.out))
        have g1 : (0 : Int) ≤ (k : Int) := by omega
        have g2 : (k : Int) < (T.length : Int) := by omega
        have g3 : (k : Int) < (code.length : Int) := by rw [HC.out]; omega
        by_cases hge : v.length ≤ x
        · have f1 : decide ((v.length : Int) ≤ (x : Int)) = true := decide_eq_true (by omega)
          have E : Hid (lookB (vecs T) code = false) := Lib.hid (lookB_at (p := k) (by rw [HL.out]; exact hlt) (by rw [EV.out, hxv.out]; omega))
          have HBE := Lib.hid bw
          clear hv1 hxv EV HQ hrd hwr bw
          go_wp2
          go_quiet (fail)
          go_wp2
          go_ret2
          exact ⟨ret2 (lookA_no E.out).symm (by rw [E.out]; rfl), below_drewN HBE.out _⟩
        · have f1 : decide ((v.length : Int) ≤ (x : Int)) = false := decide_eq_false (by omega)
          obtain ⟨bv, ov, y, rfl, hBv, hcv, hyv⟩ := hrd.at_ (i := x) (by omega)
          have x1 : (0 : Int) ≤ (x : Int) := by omega
          have x2 : (x : Int) < (v.length : Int) := by omega
          have ES : Hid (lookK (vecs T) code (k + 1) = wrap64 (lookK (vecs T) code k + y)) := Lib.hid (by
            show wrap64 (lookK (vecs T) code k + (tAt (vecs T) k)[cAt code k]?.getD 0) = _
            rw [EV.out, hxv.out, hyv.out])
          have HN : Hid (∀ q, q < k + 1 → cAt code q < (tAt (vecs T) q).length) := Lib.hid (fun q hq => by
            rcases Nat.lt_or_ge q k with h | h
            · exact HQ.out q h
            · obtain rfl : q = k := by omega
              rw [EV.out, hxv.out]; omega)
          obtain ⟨s0, es0⟩ : ∃ s0, lookK (vecs T) code k = s0 := ⟨_, rfl⟩
          rw [es0] at ES ⊢
          clear hv1 hxv EV HQ hrd bw hyv es0
          go_wp2
          go_quiet (fail)
          go_wp2
          go_quiet (fail)
          go_wp2
          go_roundw
          case rel => exact ⟨k + 1, _, by omega, by go_num, by rw [ES.out], Lib.hid (by rw [hwr.out, World.drewN_drewN]), HN⟩
          case measure => simp [intOf]; omega
      · obtain rfl : k = T.length := by omega
        have eL : decide ((T.length : Int) < (T.length : Int)) = false := decide_eq_false (by omega)
        have E : Hid (lookB (vecs T) code = true) := Lib.hid (lookB_mk (by rw [HL.out]; exact HC.out) (by rw [HL.out]; exact HQ.out))
        have EK : Hid (lookA (vecs T) code = lookK (vecs T) code T.length) := Lib.hid (by rw [lookA_yes E.out, HL.out])
        have HBE := Lib.hid bw
        clear HQ hwr bw
        go_wp2
        go_ret2
        exact ⟨ret2 EK.out.symm (by rw [E.out]; rfl), HBE.out⟩
  · have e1 : ((code.length : Int) != (T.length : Int)) = true := by simp; omega
    have E : Hid (lookB (vecs T) code = false) := Lib.hid (lookB_len (by rw [HL.out]; exact hne))
    clear hne
    go_enter Try.func26, Try.ntmps26
    go_wp2
    go_ret2
    exact ⟨ret2 (lookA_no E.out).symm (by rw [E.out]; rfl), Below.refl _ _⟩
end Go.Proofs.Ythbimjkcpmffcaa
