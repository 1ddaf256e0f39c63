/- The walk of PqBack. -/
import Derived.Test.YthbimjkcpmffcaaX1
import Derived.Deep.QuietTactic
import Derived.BigQuiet
namespace Go.Proofs.Ythbimjkcpmffcaa
open Go.RowKit
set_option linter.unusedVariables false
theorem own_cap {w : World} {base n c : Nat} {e : TypeId} {A : Option Addr} {k : IntKind} {xs : List Int} (h : w.ownsRow base e 1 (.slice A n c) xs.length (xs.map (Value.int k))) : n = xs.length ∧ xs.length ≤ c ∧ Rd k w w.heap.size A xs := by
  obtain ⟨A', c', hv, h1, h2, hrd, _⟩ := own_slice h
  injection hv with q1 q2 q3
  exact ⟨q2, by rw [q3]; exact h2, by rw [q1]; exact hrd⟩
theorem enc_u8 {ps : List (List (List Int))} {v : List Int} (h : BookOk ps v.length) : ∀ x ∈ encL ps v, 0 ≤ x ∧ x ≤ 255 := fun x hx => by
  unfold encL at hx
  obtain ⟨p, hp, rfl⟩ := List.mem_map.1 hx
  have h1 := h.2.2.2.2 p (List.mem_range.1 hp)
  have := nearestI_lt (partAt v p ps.length) h1.1
  omega
theorem decB_bk {P : Int} {ps : List (List (List Int))} {code : List Int} (h : decB P ps code = true) : bookB P ps (dimS ps) = true ∧ codeOk ps code := by
  unfold decB at h
  simp only [Bool.and_eq_true, decide_eq_true_eq] at h
  exact h
set_option maxRecDepth 100000 in
set_option maxHeartbeats 2000000 in
theorem pqBack_main (hC : PqCheckSpec) (hE : PqEncodeSpec) (hD : PqDecodeSpec) (hT : PqTableSpec) (hL : PqLookSpec) (P : Int) (A : Option Addr) (c : Nat) (L : List Pc) (D : Option Addr) (q : Nat) (code : List Int) (w : World) (hx : PGiven w A L) (hk : GivenC w D q code) :
    Calls Try.prog 7 #[.agg #[.int .i64 P, .slice A L.length c], .slice D code.length q] w fun e w' => e = .returned (.bool true) ∧ Below w.heap.size w w' := by
  have AL := Lib.hid (fun w => alive8_any hC hE hD hT hL w)
  have HC := Lib.hid hC
  have HD := Lib.hid hD
  have HE := Lib.hid hE
  have hb0 : Below w.heap.size w (w.alloc (.cells #[.int .i64 P, .slice A L.length c] 24)) := below_one (Below.refl _ _) _
  have HX0 := Lib.hid (hx.below hb0)
  have HK0 := Lib.hid (hk.below hb0)
  have C0 := Lib.hid hb0
  have BX0 := Lib.hid (show Whole (w.alloc (.cells #[.int .i64 P, .slice A L.length c] 24)) w.heap.size 24 #[.int .i64 P, .slice A L.length c] from Whole.new w 24 _)
  clear hC hE hD hT hL hx hk hb0
  go_enter Try.func7, Try.ntmps7
  go_wp2_with fail
  obtain ⟨w0, ew0⟩ : ∃ w0, w.alloc (.cells #[.int .i64 P, .slice A L.length c] 24) = w0 := ⟨_, rfl⟩
  rw [ew0] at HX0 HK0 C0 BX0 ⊢
  obtain ⟨g, eg⟩ : ∃ g, w.heap.size = g := ⟨_, rfl⟩
  rw [eg] at BX0 ⊢
  clear ew0 eg
  refine (AL.out _).mono ?_
  rintro e w1 ⟨rfl, b⟩
  have HX1 := Lib.hid (HX0.out.below b)
  have HK1 := Lib.hid (HK0.out.below b)
  have BX1 := Lib.hid (BX0.out.below b BX0.out.lt)
  have C1 := Lib.hid (C0.out.trans (b.mono C0.out.size))
  clear HX0 HK0 BX0 C0 b
  have k0 : w1.cell? ⟨g, 0, none⟩ = some (.int .i64 P) := BX1.out.cell 0
  have k1 : w1.cell? ⟨g, 1, none⟩ = some (.slice A L.length c) := BX1.out.cell 1
  dsimp only
  go_wp2_with fail
  refine (psize_any P A c L w1 HX1.out).mono ?_
  rintro e w2 ⟨⟨z, rfl, hz⟩, b⟩
  clear k0 k1
  have HX2 := Lib.hid (HX1.out.below b)
  have HK2 := Lib.hid (HK1.out.below b)
  have BX2 := Lib.hid (BX1.out.below b BX1.out.lt)
  have C2 := Lib.hid (C1.out.trans (b.mono C1.out.size))
  clear HX1 HK1 BX1 C1 b
  have k0 : w2.cell? ⟨g, 0, none⟩ = some (.int .i64 P) := BX2.out.cell 0
  have k1 : w2.cell? ⟨g, 1, none⟩ = some (.slice A L.length c) := BX2.out.cell 1
  dsimp only
  by_cases hzl : 20000 < z
  · have e1 : decide ((20000 : Int) < z) = true := decide_eq_true hzl
    go_wp2_with fail
    refine (AL.out _).mono ?_
    rintro e w9 ⟨rfl, b9⟩
    go_wp2
    go_ret
    exact ⟨rfl, C2.out.trans (b9.mono C2.out.size)⟩
  have e1 : decide ((20000 : Int) < z) = false := decide_eq_false hzl
  have HSM := Lib.hid (show PSmall L by rcases hz.2 with h | h <;> unfold PSmall <;> omega)
  clear hz hzl
  go_wp2_with fail
  refine (beyond_one code.length (by have := HK2.out.len; omega) w2).mono ?_
  rintro e w3 ⟨rfl, rfl⟩
  have b : Below w2.heap.size w2 (w2.alloc (.cells #[.int .i64 (code.length : Int)] 3)) := below_one (Below.refl _ _) _
  obtain ⟨w3, ew3⟩ : ∃ w3, w2.alloc (.cells #[.int .i64 (code.length : Int)] 3) = w3 := ⟨_, rfl⟩
  rw [ew3] at b ⊢
  clear ew3 k0 k1 e1
  have HX3 := Lib.hid (HX2.out.below b)
  have HK3 := Lib.hid (HK2.out.below b)
  have BX3 := Lib.hid (BX2.out.below b BX2.out.lt)
  have C3 := Lib.hid (C2.out.trans (b.mono C2.out.size))
  clear HX2 HK2 BX2 C2 b
  have k0 : w3.cell? ⟨g, 0, none⟩ = some (.int .i64 P) := BX3.out.cell 0
  have k1 : w3.cell? ⟨g, 1, none⟩ = some (.slice A L.length c) := BX3.out.cell 1
  dsimp only
  cases hbe : bey [(code.length : Int)] with
  | true =>
    go_wp2_with fail
    refine (AL.out _).mono ?_
    rintro e w9 ⟨rfl, b9⟩
    go_wp2
    go_ret
    exact ⟨rfl, C3.out.trans (b9.mono C3.out.size)⟩
  | false =>
    have HBE := Lib.hid (bey_one hbe)
    have HP3 := Lib.hid (HX3.out.arg HSM.out)
    clear hbe AL
    clear HX3
    go_wp2_with fail
    refine (HD.out P A c L D q code w3 HP3.out (HK3.out.arg HBE.out)).mono ?_
    rintro e w4 ⟨A4, c4, rfl, o, b⟩
    clear k0 k1
    have HP4 := Lib.hid (HP3.out.below b)
    have HK4 := Lib.hid (HK3.out.below b)
    have BX4 := Lib.hid (BX3.out.below b BX3.out.lt)
    have C4 := Lib.hid (C3.out.trans (b.mono C3.out.size))
    clear HP3 HK3 BX3 C3 b
    have k0 : w4.cell? ⟨g, 0, none⟩ = some (.int .i64 P) := BX4.out.cell 0
    have k1 : w4.cell? ⟨g, 1, none⟩ = some (.slice A L.length c) := BX4.out.cell 1
    dsimp only
    cases hok : decB P (words L) code with
    | false =>
      have hda : decA P (words L) code = [] := by unfold decA; rw [hok]; rfl
      rw [hda, show errE false = 1 from rfl]
      clear o hda
      go_wp2
      go_ret
      exact ⟨rfl, C4.out⟩
    | true =>
      obtain ⟨hbb, hco⟩ := decB_bk hok
      obtain ⟨hPL, hbk⟩ := bookB_yes hbb
      have hdl : (decL (words L) code).length = dimS (words L) := dec_len hbk hco
      have hda : decA P (words L) code = decL (words L) code := by unfold decA; rw [hok]; rfl
      rw [hda] at o
      rw [hda, show errE true = 0 from rfl]
      have hbv : BookOk (words L) (decL (words L) code).length := by rw [hdl]; exact hbk
      have hbb2 : bookB P (words L) (decL (words L) code).length = true := bookB_mk hPL hbv
      have HBB := Lib.hid hbb2
      have hea : encA P (words L) (decL (words L) code) = encL (words L) (decL (words L) code) := by unfold encA; rw [hbb2]; rfl
      have HEA := Lib.hid hea
      have HEL := Lib.hid (show (encL (words L) (decL (words L) code)).length = (words L).length from encL_len _ _)
      have HEU := Lib.hid (enc_u8 hbv)
      have HEO := Lib.hid (enc_ok hbv)
      have hdd : decL (words L) (encL (words L) (decL (words L) code)) = decL (words L) code := dec_enc_dec hbk hco
      have hdb2 : decB P (words L) (encL (words L) (decL (words L) code)) = true := by unfold decB; rw [hbb]; exact decide_eq_true (enc_ok hbv)
      have hda2 : decA P (words L) (encL (words L) (decL (words L) code)) = decL (words L) code := by unfold decA; rw [hdb2]; exact hdd
      have HDA2 := Lib.hid hda2
      have HDB2 := Lib.hid hdb2
      have HLE := Lib.hid (fun p (hp : p < (words L).length) => (enc_dec hbk hco hp).2)
      have HCO := Lib.hid hco
      have HB8 := Lib.hid (dec_b8 HP4.out.b8 hco)
      have hD64 : (decL (words L) code).length ≤ 64 := hbv.2.1
      have oc := own_cap o
      have HOC := Lib.hid oc.2.1
      have HV4 := Lib.hid (show NArg w4 A4 (decL (words L) code) from ⟨oc.2.2, by omega, HB8.out⟩)
      have HCL := Lib.hid (show (words L).length = code.length from hco.1.symm)
      clear hok hbb hco hPL hbk hdl hda hbv hbb2 hea hdd hdb2 hda2 oc o
      obtain ⟨V, eV⟩ : ∃ V, decL (words L) code = V := ⟨_, rfl⟩
      rw [eV] at HBB HEA HEL HEU HEO HDA2 HDB2 HLE HB8 hD64 HOC HV4 ⊢
      obtain ⟨E, eE⟩ : ∃ E, encL (words L) V = E := ⟨_, rfl⟩
      rw [eE] at HEA HEL HEU HEO HDA2 HDB2 HLE
      clear eV eE
      go_wp2_with fail
      refine (HE.out P A c L A4 c4 V w4 HP4.out HV4.out HOC.out).mono ?_
      rintro e w5 ⟨A5, c5, rfl, o, b⟩
      clear k0 k1
      have HP5 := Lib.hid (HP4.out.below b)
      have HK5 := Lib.hid (HK4.out.below b)
      have BX5 := Lib.hid (BX4.out.below b BX4.out.lt)
      have HV5 := Lib.hid (HV4.out.below b)
      have C5 := Lib.hid (C4.out.trans (b.mono C4.out.size))
      clear HP4 HK4 BX4 HV4 C4 b
      have k0 : w5.cell? ⟨g, 0, none⟩ = some (.int .i64 P) := BX5.out.cell 0
      have k1 : w5.cell? ⟨g, 1, none⟩ = some (.slice A L.length c) := BX5.out.cell 1
      dsimp only
      rw [HEA.out] at o
      rw [HEA.out, HBB.out, show errE true = 0 from rfl]
      have oc := own_cap o
      have hE64 : E.length ≤ 1048576 := by rw [HEL.out, HCL.out]; exact HBE.out
      have HW5 := Lib.hid (show CArg w5 A5 E from ⟨oc.2.2, hE64, HEU.out⟩)
      clear o oc
      go_wp2_with fail
      refine (HD.out P A c L A5 c5 E w5 HP5.out HW5.out).mono ?_
      rintro e w6 ⟨A6, c6, rfl, o, b⟩
      clear k0 k1
      have HP6 := Lib.hid (HP5.out.below b)
      have HK6 := Lib.hid (HK5.out.below b)
      have BX6 := Lib.hid (BX5.out.below b BX5.out.lt)
      have HV6 := Lib.hid (HV5.out.below b)
      have HW6 := Lib.hid (HW5.out.below b)
      have C6 := Lib.hid (C5.out.trans (b.mono C5.out.size))
      clear HP5 HK5 BX5 HV5 HW5 C5 b
      have k0 : w6.cell? ⟨g, 0, none⟩ = some (.int .i64 P) := BX6.out.cell 0
      have k1 : w6.cell? ⟨g, 1, none⟩ = some (.slice A L.length c) := BX6.out.cell 1
      dsimp only
      rw [HDA2.out] at o
      rw [HDA2.out, HDB2.out, show errE true = 0 from rfl]
      have HY6 := Lib.hid (own_cap o).2.2
      have HEC := Lib.hid (show E.length = code.length from HEL.out.trans HCL.out)
      clear o hE64
      have CK := Lib.hid (fun W (hb : Below w6.heap.size w6 W) => HC.out P A c L V.length W (HP6.out.below hb))
      have SV := Lib.hid (fun W (hb : Below w6.heap.size w6 W) => same8_any A4 A6 c4 c6 V V W _ (HV6.out.below hb).rd ((HY6.out.below hb).more hb.size) (by have := hD64; omega) (by have := hD64; omega))
      have hl := HEC.out
      rw [hl]
      have bnd : code.length ≤ 1048576 := HBE.out
      clear hl
      go_wp2
      go_loopw [11] (fun i wr => ∃ p nq : Nat, p ≤ code.length ∧ i = .int .i64 p ∧ wr = w6.drewN nq) (fun i _ => code.length - (intOf i).toNat)
      case atStart => exact ⟨0, 0, by omega, rfl, rfl⟩
      case round =>
        obtain ⟨p, nq, hp, rfl, rfl⟩ := hrel
        by_cases hlt : p < code.length
        · have eL : decide ((p : Int) < (code.length : Int)) = true := decide_eq_true (by omega)
          obtain ⟨b1, o1, x, rfl, hb1, hcx, hvx⟩ := HW6.out.rd.at_ (i := p) (by rw [HEC.out]; exact hlt)
          obtain ⟨b2, o2, y, rfl, hb2, hcy, hvy⟩ := HK6.out.rd.at_ hlt
          have x1 : (0 : Int) ≤ (p : Int) := by omega
          have x2 : (p : Int) < (code.length : Int) := by omega
          have hle := HLE.out p (by rw [HCL.out]; exact hlt)
          have hy8 := HK6.out.u8 y (by rw [← hvy.out, List.getElem?_eq_getElem hlt]; exact List.getElem_mem hlt)
          have hx8 := HEU.out x (by rw [← hvx.out, List.getElem?_eq_getElem (by rw [HEC.out]; exact hlt)]; exact List.getElem_mem _)
          unfold cAt at hle
          rw [hvx.out, hvy.out] at hle
          have e2 : decide (y < x) = false := decide_eq_false (by omega)
          clear hle hy8 hx8 hvx hvy
          go_wp2
          go_quiet (fail)
          go_wp2
          go_roundw
          case rel => exact ⟨p + 1, _, by omega, by go_num, rfl⟩
          case measure => simp [intOf]; omega
        · obtain rfl : p = code.length := by omega
          have eL : decide ((code.length : Int) < (code.length : Int)) = false := decide_eq_false (by omega)
          have bq : Below w6.heap.size w6 (w6.drewN nq) := below_drewN (Below.refl _ _) nq
          obtain ⟨w7, ew7⟩ : ∃ w7, w6.drewN nq = w7 := ⟨_, rfl⟩
          rw [ew7] at bq ⊢
          have k07 := (BX6.out.below bq BX6.out.lt).cell 0
          have k17 := (BX6.out.below bq BX6.out.lt).cell 1
          have k0 : w7.cell? ⟨g, 0, none⟩ = some (.int .i64 P) := k07
          have k1 : w7.cell? ⟨g, 1, none⟩ = some (.slice A L.length c) := k17
          clear k07 k17 ew7
          have S7 := Lib.hid (SV.out w7 bq)
          go_wp2_with (first
            | (go_at_call 17; refine S7.out.mono ?_; rintro e w8 ⟨rfl, nq2, rfl⟩
               have bq8 : Below w6.heap.size w6 (w7.drewN nq2) := below_drewN bq nq2
               have e9 : eqB V V = true := decide_eq_true rfl
               have C8 := Lib.hid (CK.out _ bq8)
               have k08 : (w7.drewN nq2).cell? ⟨g, 0, none⟩ = some (.int .i64 P) := k0
               have k18 : (w7.drewN nq2).cell? ⟨g, 1, none⟩ = some (.slice A L.length c) := k1)
            | (go_at_call 30; refine C8.out.mono ?_; rintro e w10 ⟨rfl, b10⟩))
          go_ret
          exact ⟨by rw [HBB.out]; rfl, C6.out.trans ((bq8.trans (b10.mono bq8.size)).mono C6.out.size)⟩
      
end Go.Proofs.Ythbimjkcpmffcaa
