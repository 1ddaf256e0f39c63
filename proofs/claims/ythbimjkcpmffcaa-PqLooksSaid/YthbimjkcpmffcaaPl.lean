/- The walk of PqLooks, over what is asked of Look. -/
import Derived.Test.YthbimjkcpmffcaaPk
namespace Go.Proofs.Ythbimjkcpmffcaa
open Go.RowKit
set_option linter.unusedVariables false
set_option maxRecDepth 100000 in
set_option maxHeartbeats 1000000 in
theorem pqLooks_main (hN : PqLookSpec) (A : Option Addr) (c : Nat) (T : List Vc) (B : Option Addr) (d : Nat) (code : List Int) (w : World) (hx : GivenT w A T) (hy : GivenC w B d code) :
    Calls Try.prog 4 #[.slice A T.length c, .slice B code.length d] w fun e w' => e = .returned (.bool true) ∧ Below w.heap.size w w' := by
  have HN := Lib.hid hN
  have HX := Lib.hid hx
  have HY := Lib.hid hy
  have HL := Lib.hid (vecs_len T)
  have hlen := hx.len
  clear hN hx hy
  by_cases h0 : 1000 < T.length
  · have e0 : decide ((1000 : Int) < (T.length : Int)) = true := decide_eq_true (by omega)
    clear h0
    go_enter Try.func4, Try.ntmps4
    go_wp2
    go_ret
    exact ⟨rfl, Below.refl _ _⟩
  have e0 : decide ((1000 : Int) < (T.length : Int)) = false := decide_eq_false (by omega)
  have hT1 : T.length ≤ 1000 := by omega
  clear h0 hlen
  go_enter Try.func4, Try.ntmps4
  go_wp2_with fail
  refine (beyond_one code.length (by have := HY.out.len; omega) w).mono ?_
  rintro e w1 ⟨rfl, rfl⟩
  have cw1 : Below w.heap.size w (w.alloc (.cells #[.int .i64 (code.length : Int)] 3)) := below_one (Below.refl _ _) _
  have C1 := Lib.hid cw1
  have HX1 := Lib.hid (HX.out.below cw1)
  have HY1 := Lib.hid (HY.out.below cw1)
  obtain ⟨w1, ew1⟩ : ∃ w1, w.alloc (.cells #[.int .i64 (code.length : Int)] 3) = w1 := ⟨_, rfl⟩
  rw [ew1] at C1 HX1 HY1 ⊢
  clear ew1 cw1 HX HY
  dsimp only
  cases hbe : bey [(code.length : Int)] with
  | true =>
    go_wp2
    go_ret
    exact ⟨rfl, C1.out⟩
  | false =>
    have HV := Lib.hid (bey_one hbe)
    clear hbe
    go_wp2
    go_loop [5] (fun i => ∃ k : Nat, k ≤ T.length ∧ i = .int .i64 k ∧ Hid (∀ j v, j < k → (vecs T)[j]? = some v → v.length ≤ 1000)) (fun i => T.length - (intOf i).toNat)
    case atStart => exact ⟨0, by omega, rfl, (fun j v hj => absurd hj (Nat.not_lt_zero _) : ∀ j v, j < 0 → (vecs T)[j]? = some v → v.length ≤ 1000)⟩
    case round =>
      obtain ⟨k, hk, rfl, HK⟩ := hrel
      by_cases hlt : k < T.length
      · have eL : decide ((k : Int) < (T.length : Int)) = true := decide_eq_true (by omega)
        obtain ⟨b, off, a1, c1, v, rfl, hBk, hck, hrd, hv1⟩ := HX1.out.rd.at_ hlt
        have hvl := HX1.out.each v (List.mem_of_getElem? (vecs_at hv1.out))
        by_cases hbig : 1000 < v.length
        · have e1 : decide ((1000 : Int) < (v.length : Int)) = true := decide_eq_true (by omega)
          clear hrd hv1
          go_wp2
          go_ret
          exact ⟨rfl, C1.out⟩
        · have e1 : decide ((1000 : Int) < (v.length : Int)) = false := decide_eq_false (by omega)
          have HN' : Hid (∀ j v, j < k + 1 → (vecs T)[j]? = some v → v.length ≤ 1000) := Lib.hid (fun j u hj hu => by
            rcases Nat.lt_or_ge j k with h | h
            · exact HK.out j u h hu
            · obtain rfl : j = k := by omega
              rw [vecs_at hv1.out] at hu
              injection hu with hu
              subst hu
              omega)
          clear hrd hv1 HK
          go_wp2
          go_round
          case rel => exact ⟨k + 1, by omega, by go_num, HN'⟩
          case measure => simp [intOf]; omega
      · obtain rfl : k = T.length := by omega
        have eL : decide ((T.length : Int) < (T.length : Int)) = false := decide_eq_false (by omega)
        have HE : Hid (∀ v ∈ vecs T, v.length ≤ 1000) := Lib.hid (fun v hv => by
          obtain ⟨j, hj⟩ := List.getElem?_of_mem hv
          exact HK.out j v (by have := (List.getElem?_eq_some_iff.1 hj).1; rw [HL.out] at this; exact this) hj)
        clear HK
        go_wp2_with fail
        refine (twinTabs_any A c T _ rfl w1 HX1.out.rd (by omega) (fun u hu => by have := HE.out u hu; omega)).mono ?_
        rintro e w2 ⟨rfl, ⟨S, hS, hSv⟩, b2⟩
        have HSV := Lib.hid hSv
        have HS2 := Lib.hid hS
        have HSL := Lib.hid (show S.length = T.length by rw [← vecs_len, hSv, vecs_len])
        have HX2 := Lib.hid (HX1.out.below b2)
        have HY2 := Lib.hid (HY1.out.below b2)
        have C2 := Lib.hid (C1.out.trans (b2.mono C1.out.size))
        clear hS hSv b2 HX1 HY1 C1
        obtain ⟨g, eg⟩ : ∃ g, w1.heap.size = g := ⟨_, rfl⟩
        rw [eg] at HS2 ⊢
        clear eg
        dsimp only
        go_wp2_with fail
        refine (twinBytes_any B d code _ rfl w2 HY2.out.rd (by have := HV.out; omega)).mono ?_
        rintro e w3 ⟨rfl, b3, hown3⟩
        have HO3 := Lib.hid (show MarkRow w3 w2.heap.size w2.heap.size .u8 5 code from hown3)
        have HS3 := Lib.hid (HS2.out.below b3)
        have HX3 := Lib.hid (HX2.out.below b3)
        have HY3 := Lib.hid (HY2.out.below b3)
        have C3 := Lib.hid (C2.out.trans (b3.mono C2.out.size))
        clear hown3 b3 HS2 HX2 HY2 C2
        obtain ⟨h, eh⟩ : ∃ h, w2.heap.size = h := ⟨_, rfl⟩
        rw [eh] at HO3 ⊢
        clear eh
        dsimp only
        go_wp2_with fail
        have a4 : TArg w3 (some ⟨g, 0, none⟩) S := ⟨HS3.out.rd, by rw [HSL.out]; omega, fun v hv => by rw [HSV.out] at hv; have := HE.out v hv; omega⟩
        have q4 := HN.out (some ⟨g, 0, none⟩) (T.length + 2) S (some ⟨h, 0, none⟩) (code.length + 1) code w3 a4 ⟨unmark_rd HO3.out.rd, HV.out, HY3.out.u8⟩
        rw [HSL.out, HSV.out] at q4
        refine q4.mono ?_
        clear a4 q4
        rintro e w4 ⟨rfl, b4⟩
        have HO4 := Lib.hid (HO3.out.below b4)
        have HS4 := Lib.hid (HS3.out.below b4)
        have HX4 := Lib.hid (HX3.out.below b4)
        have HY4 := Lib.hid (HY3.out.below b4)
        have C4 := Lib.hid (C3.out.trans (b4.mono C3.out.size))
        clear b4 HO3 HS3 HX3 HY3 C3 HN
        dsimp only
        have RL := Lib.hid (rLook_any A c T B d code w4 ⟨HX4.out.rd, by omega, fun v hv => by have := HE.out v hv; omega⟩ (HY4.out.arg HV.out))
        obtain ⟨z, ez⟩ : ∃ z, lookA (vecs T) code = z := ⟨_, rfl⟩
        obtain ⟨E, eE⟩ : ∃ E, errE (lookB (vecs T) code) = E := ⟨_, rfl⟩
        rw [ez, eE] at RL ⊢
        clear ez eE
        go_wp2_with fail
        refine RL.out.mono ?_
        rintro e w5 ⟨rfl, b5⟩
        have HO5 := Lib.hid (HO4.out.below b5)
        have HS5 := Lib.hid (HS4.out.below b5)
        have HX5 := Lib.hid (HX4.out.below b5)
        have HY5 := Lib.hid (HY4.out.below b5)
        have C5 := Lib.hid (C4.out.trans (b5.mono C4.out.size))
        clear b5 HO4 HS4 HX4 HY4 C4 RL
        dsimp only
        have e3 : (z == z) = true := by simp
        have e4 : (E == E) = true := by simp
        have b6 : Below w5.heap.size w5 w5 := Below.refl _ _
        have L1 := Lib.hid (fun W (hb : Below w5.heap.size w5 W) => leftTabs_any g g S A c T _ rfl W (HS5.out.below hb) HSV.out (HX5.out.below hb).rd HX5.out.room (by omega) (fun v hv => by have := HE.out v hv; omega))
        have L2 := Lib.hid (fun W (hb : Below w5.heap.size w5 W) => leftBytes_any (some ⟨h, 0, none⟩) B (code.length + 1) d code _ rfl W W.heap.size (HY5.out.below hb).rd (HO5.out.below hb).rd HY5.out.room.1 (by omega) ⟨HY5.out.room.2, by have := HV.out; omega⟩ (by have := HV.out; omega))
        go_wp2_with (first
          | (go_at_call 27; (with_reducible refine (L1.out _ b6).mono ?_); rintro e w7 ⟨rfl, n7, h7⟩
             have b7 : Below w5.heap.size w5 w7 := by rw [h7]; exact below_drewN b6 n7
             clear h7)
          | (go_at_call 19; (with_reducible refine (L2.out _ b7).mono ?_); rintro e w8 ⟨rfl, n8, h8⟩
             have b8 := Lib.hid (show Below w5.heap.size w5 w8 by rw [h8]; exact below_drewN b7 n8)
             clear h8))
        go_ret
        exact ⟨rfl, C5.out.trans (b8.out.mono C5.out.size)⟩
end Go.Proofs.Ythbimjkcpmffcaa
