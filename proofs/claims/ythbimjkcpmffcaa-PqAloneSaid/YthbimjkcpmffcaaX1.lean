/- The walk of PqFar. -/
import Derived.Test.YthbimjkcpmffcaaX0
import Derived.Test.YthbimjkcpmffcaaPe
namespace Go.Proofs.Ythbimjkcpmffcaa
open Go.RowKit
set_option linter.unusedVariables false
theorem dec_b8 {ps : List (List (List Int))} {code : List Int} (hb : B88 ps) (hc : codeOk ps code) : ∀ x ∈ decL ps code, -128 ≤ x ∧ x ≤ 127 := fun x hx => by
  unfold decL at hx
  obtain ⟨l, hl, hx⟩ := List.mem_flatten.1 hx
  obtain ⟨p, hp, rfl⟩ := List.mem_map.1 hl
  have hp2 := List.mem_range.1 hp
  exact hb.at hp2 _ (vAt_mem (hc.2 p hp2)) x hx
set_option maxRecDepth 100000 in
set_option maxHeartbeats 2000000 in
theorem pqFar_main (hC : PqCheckSpec) (hE : PqEncodeSpec) (hD : PqDecodeSpec) (hT : PqTableSpec) (hL : PqLookSpec) (P : Int) (A : Option Addr) (c : Nat) (L : List Pc) (B : Option Addr) (d : Nat) (v : List Int) (D : Option Addr) (q : Nat) (code : List Int) (w : World) (hx : PGiven w A L) (hv : GivenV w B d v) (hk : GivenC w D q code) :
    Calls Try.prog 5 #[.agg #[.int .i64 P, .slice A L.length c], .slice B v.length d, .slice D code.length q] w fun e w' => e = .returned (.bool true) ∧ Below w.heap.size w w' := by
  have AL := Lib.hid (fun w => alive8_any hC hE hD hT hL w)
  have HC := Lib.hid hC
  have HD := Lib.hid hD
  have HT := Lib.hid hT
  have HL := Lib.hid hL
  have hb0 : Below w.heap.size w (w.alloc (.cells #[.int .i64 P, .slice A L.length c] 24)) := below_one (Below.refl _ _) _
  have HX0 := Lib.hid (hx.below hb0)
  have HV0 := Lib.hid (hv.below hb0)
  have HK0 := Lib.hid (hk.below hb0)
  have C0 := Lib.hid hb0
  have BX0 := Lib.hid (show Whole (w.alloc (.cells #[.int .i64 P, .slice A L.length c] 24)) w.heap.size 24 #[.int .i64 P, .slice A L.length c] from Whole.new w 24 _)
  clear hC hE hD hT hL hx hv hk hb0
  go_enter Try.func5, Try.ntmps5
  go_wp2_with fail
  obtain ⟨w0, ew0⟩ : ∃ w0, w.alloc (.cells #[.int .i64 P, .slice A L.length c] 24) = w0 := ⟨_, rfl⟩
  rw [ew0] at HX0 HV0 HK0 C0 BX0 ⊢
  obtain ⟨g, eg⟩ : ∃ g, w.heap.size = g := ⟨_, rfl⟩
  rw [eg] at BX0 ⊢
  clear ew0 eg
  refine (AL.out _).mono ?_
  rintro e w1 ⟨rfl, b⟩
  have HX1 := Lib.hid (HX0.out.below b)
  have HV1 := Lib.hid (HV0.out.below b)
  have HK1 := Lib.hid (HK0.out.below b)
  have BX1 := Lib.hid (BX0.out.below b BX0.out.lt)
  have C1 := Lib.hid (C0.out.trans (b.mono C0.out.size))
  clear HX0 HV0 HK0 BX0 C0 b
  have k0 : w1.cell? ⟨g, 0, none⟩ = some (.int .i64 P) := BX1.out.cell 0
  have k1 : w1.cell? ⟨g, 1, none⟩ = some (.slice A L.length c) := BX1.out.cell 1
  dsimp only
  go_wp2_with fail
  refine (psize_any P A c L w1 HX1.out).mono ?_
  rintro e w2 ⟨⟨z, rfl, hz⟩, b⟩
  clear k0 k1
  have HX2 := Lib.hid (HX1.out.below b)
  have HV2 := Lib.hid (HV1.out.below b)
  have HK2 := Lib.hid (HK1.out.below b)
  have BX2 := Lib.hid (BX1.out.below b BX1.out.lt)
  have C2 := Lib.hid (C1.out.trans (b.mono C1.out.size))
  clear HX1 HV1 HK1 BX1 C1 b
  have k0 : w2.cell? ⟨g, 0, none⟩ = some (.int .i64 P) := BX2.out.cell 0
  have k1 : w2.cell? ⟨g, 1, none⟩ = some (.slice A L.length c) := BX2.out.cell 1
  dsimp only
  by_cases hzl : 20000 < z
  · have e1 : decide ((20000 : Int) < z) = true := decide_eq_true hzl
    go_wp2_with fail
    refine (AL.out _).mono ?_
    rintro e w9 ⟨rfl, b9⟩
    go_wp2
    go_ret
    exact ⟨rfl, C2.out.trans (b9.mono C2.out.size)⟩
  have e1 : decide ((20000 : Int) < z) = false := decide_eq_false hzl
  have HSM := Lib.hid (show PSmall L by rcases hz.2 with h | h <;> unfold PSmall <;> omega)
  clear hz hzl
  go_wp2_with fail
  refine (beyond_two v.length code.length HV2.out.len (by have := HK2.out.len; omega) w2).mono ?_
  rintro e w3 ⟨rfl, rfl⟩
  have b : Below w2.heap.size w2 (w2.alloc (.cells #[.int .i64 (v.length : Int), .int .i64 (code.length : Int)] 3)) := below_one (Below.refl _ _) _
  obtain ⟨w3, ew3⟩ : ∃ w3, w2.alloc (.cells #[.int .i64 (v.length : Int), .int .i64 (code.length : Int)] 3) = w3 := ⟨_, rfl⟩
  rw [ew3] at b ⊢
  clear ew3 k0 k1 e1
  have HX3 := Lib.hid (HX2.out.below b)
  have HV3 := Lib.hid (HV2.out.below b)
  have HK3 := Lib.hid (HK2.out.below b)
  have BX3 := Lib.hid (BX2.out.below b BX2.out.lt)
  have C3 := Lib.hid (C2.out.trans (b.mono C2.out.size))
  clear HX2 HV2 HK2 BX2 C2 b
  have k0 : w3.cell? ⟨g, 0, none⟩ = some (.int .i64 P) := BX3.out.cell 0
  have k1 : w3.cell? ⟨g, 1, none⟩ = some (.slice A L.length c) := BX3.out.cell 1
  dsimp only
  cases hbe : bey [(v.length : Int), (code.length : Int)] with
  | true =>
    go_wp2_with fail
    refine (AL.out _).mono ?_
    rintro e w9 ⟨rfl, b9⟩
    go_wp2
    go_ret
    exact ⟨rfl, C3.out.trans (b9.mono C3.out.size)⟩
  | false =>
    have HBE := Lib.hid (bey_two hbe)
    have HP3 := Lib.hid (HX3.out.arg HSM.out)
    clear hbe AL
    clear HX3
    go_wp2_with fail
    refine (HT.out P A c L B d v w3 HP3.out (HV3.out.arg HBE.out.1) HV3.out.room.1).mono ?_
    rintro e w4 ⟨A4, c4, T, rfl, o, ap, ev, b⟩
    clear k0 k1
    have HP4 := Lib.hid (HP3.out.below b)
    have HV4 := Lib.hid (HV3.out.below b)
    have HK4 := Lib.hid (HK3.out.below b)
    have BX4 := Lib.hid (BX3.out.below b BX3.out.lt)
    have C4 := Lib.hid (C3.out.trans (b.mono C3.out.size))
    clear HP3 HV3 HK3 BX3 C3 b
    have k0 : w4.cell? ⟨g, 0, none⟩ = some (.int .i64 P) := BX4.out.cell 0
    have k1 : w4.cell? ⟨g, 1, none⟩ = some (.slice A L.length c) := BX4.out.cell 1
    have HO4 := Lib.hid o
    have HEV := Lib.hid ev
    clear o ap ev
    dsimp only
    cases hok : bookB P (words L) v.length with
    | false =>
      have e4 : T.length = 0 := by have := congrArg List.length HEV.out; unfold tabA at this; rw [vecs_len, hok] at this; exact this
      have CK := HC.out P A c L v.length w4 HP4.out
      rw [hok] at CK
      have HCK := Lib.hid CK
      have e5 : ((T.length : Int) == 0) = true := beq_iff_eq.2 (by omega)
      have e6 : errE false = 1 := rfl
      rw [e6]
      clear CK e4 e6
      go_wp2_with (go_at_call 30; refine HCK.out.mono ?_; rintro e w9 ⟨rfl, b9⟩)
      go_ret
      exact ⟨rfl, C4.out.trans (b9.mono C4.out.size)⟩
    | true =>
      obtain ⟨hPL, hbk⟩ := bookB_yes hok
      have HBK := Lib.hid hbk
      have HPL := Lib.hid hPL
      have ht := HEV.out
      unfold tabA at ht
      rw [hok, if_pos rfl] at ht
      have HTL := Lib.hid (show T.length = L.length by have := congrArg List.length ht; rwa [vecs_len, tabL_len, words_len] at this)
      have HTV := Lib.hid ht
      have HRT4 := Lib.hid HO4.out.rd
      have e6 : errE true = 0 := rfl
      rw [e6]
      clear hok hPL hbk ht e6 HO4 HEV
      have hvs : ∀ u ∈ vecs T, u.length ≤ 64 := fun u hu => by
        rw [HTV.out] at hu
        unfold tabL at hu
        obtain ⟨p, hp, rfl⟩ := List.mem_map.1 hu
        rw [List.length_map]
        exact (HBK.out.2.2.2.2 p (List.mem_range.1 hp)).2.1
      have HVS := Lib.hid hvs
      clear hvs
      go_wp2_with fail
      refine (HL.out A4 c4 T D q code w4 ⟨HRT4.out, by have := HTL.out; have := HP4.out.sm.len; omega, fun u hu => by have := HVS.out u hu; omega⟩ (HK4.out.arg HBE.out.2)).mono ?_
      rintro e w5 ⟨rfl, b⟩
      clear k0 k1
      have HP5 := Lib.hid (HP4.out.below b)
      have HV5 := Lib.hid (HV4.out.below b)
      have HK5 := Lib.hid (HK4.out.below b)
      have BX5 := Lib.hid (BX4.out.below b BX4.out.lt)
      have HRT5 := Lib.hid ((HRT4.out.below b).more b.size)
      have C5 := Lib.hid (C4.out.trans (b.mono C4.out.size))
      clear HP4 HV4 HK4 BX4 HRT4 C4 b
      have k0 : w5.cell? ⟨g, 0, none⟩ = some (.int .i64 P) := BX5.out.cell 0
      have k1 : w5.cell? ⟨g, 1, none⟩ = some (.slice A L.length c) := BX5.out.cell 1
      dsimp only
      go_wp2_with fail
      refine (HD.out P A c L D q code w5 HP5.out (HK5.out.arg HBE.out.2)).mono ?_
      rintro e w6 ⟨A6, c6, rfl, o, b⟩
      clear k0 k1
      have HP6 := Lib.hid (HP5.out.below b)
      have HV6 := Lib.hid (HV5.out.below b)
      have HK6 := Lib.hid (HK5.out.below b)
      have BX6 := Lib.hid (BX5.out.below b BX5.out.lt)
      have HRT6 := Lib.hid ((HRT5.out.below b).more b.size)
      have C6 := Lib.hid (C5.out.trans (b.mono C5.out.size))
      clear HP5 HV5 HK5 BX5 HRT5 C5 b
      have k0 : w6.cell? ⟨g, 0, none⟩ = some (.int .i64 P) := BX6.out.cell 0
      have k1 : w6.cell? ⟨g, 1, none⟩ = some (.slice A L.length c) := BX6.out.cell 1
      have HO6 := Lib.hid o
      clear o
      dsimp only
      have hlk : lookOk (vecs T) code ↔ codeOk (words L) code := by rw [HTV.out]; exact lookOk_tab
      have hdim : dimS (words L) = v.length := HBK.out.dims
      have hbb : bookB P (words L) (dimS (words L)) = true := by rw [hdim]; exact bookB_mk HPL.out HBK.out
      by_cases hco : codeOk (words L) code
      · have hlb : lookB (vecs T) code = true := decide_eq_true (hlk.2 hco)
        have hdb : decB P (words L) code = true := by unfold decB; rw [hbb]; exact decide_eq_true hco
        have hla : lookA (vecs T) code = far v (decL (words L) code) := by
          unfold lookA
          rw [if_pos (hlk.2 hco), HTV.out, tabL_len]
          exact look_far HBK.out HP6.out.b8 HV6.out.b8 hco
        have hda : decA P (words L) code = decL (words L) code := by unfold decA; rw [hdb]; rfl
        have hdl : (decL (words L) code).length = v.length := dec_len HBK.out hco
        have hd64 : 1 ≤ v.length ∧ v.length ≤ 64 := ⟨HBK.out.1, HBK.out.2.1⟩
        have ho := HO6.out
        rw [hda] at ho ⊢
        rw [hlb, hdb, hla, show errE true = 0 from rfl]
        have hrd : Rd .i8 w6 w6.heap.size A6 (decL (words L) code) := by
          obtain ⟨B', c', hv', _, _, hrd, _⟩ := own_slice ho
          injection hv' with q1 q2 q3
          rw [q1]; exact hrd
        have hb8 : ∀ x ∈ decL (words L) code, -128 ≤ x ∧ x ≤ 127 := dec_b8 HP6.out.b8 hco
        have DI := dist_yes B A6 d c6 v (decL (words L) code) hd64.1 hd64.2 hdl (decL (words L) code).length hdl w6 HV6.out.rd hrd HV6.out.b8 hb8
        have HDI := Lib.hid DI
        clear DI hrd ho hda hdl hlb hdb hla hlk hbb hdim hd64 hb8
        obtain ⟨f, ef⟩ : ∃ f, far v (decL (words L) code) = f := ⟨_, rfl⟩
        rw [ef] at HDI ⊢
        have e8 : (f == f) = true := by simp
        go_wp2_with (go_at_call 31; refine HDI.out.mono ?_; rintro e w9 ⟨rfl, b9⟩)
        go_ret
        exact ⟨rfl, C6.out.trans (b9.mono C6.out.size)⟩
      · have hlb : lookB (vecs T) code = false := decide_eq_false (fun h => hco (hlk.1 h))
        have hdb : decB P (words L) code = false := by unfold decB; rw [hbb]; exact decide_eq_false hco
        have hla : lookA (vecs T) code = 0 := by unfold lookA; rw [if_neg (fun h => hco (hlk.1 h))]
        have hda : decA P (words L) code = [] := by unfold decA; rw [hdb]; rfl
        rw [hlb, hdb, hla, hda, show errE false = 1 from rfl]
        clear hlk hbb hdim hlb hdb hla hda hco
        go_wp2
        go_ret
        exact ⟨rfl, C6.out⟩
      
end Go.Proofs.Ythbimjkcpmffcaa
