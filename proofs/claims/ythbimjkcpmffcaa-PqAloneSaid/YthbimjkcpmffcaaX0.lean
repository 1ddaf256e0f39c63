/- The walks of the statements' own small and alive (layer 8). -/
import Derived.Test.YthbimjkcpmffcaaPk
namespace Go.Proofs.Ythbimjkcpmffcaa
open Go.RowKit
set_option linter.unusedVariables false
def smallW : List (List (List Int)) := [[[0], [10]], [[0, 0], [5, 5]]]
theorem resCellS {P : Program} {fn : Func} {p : Tmp} {ty : TypeId} (h : fn.results = #[.cell p ty]) (tmps : Array Value) (w : World) :
    (results fn tmps).run P w = ((asAddr (tmps.getD p undef)).run P w).andThen fun a w₁ => (loadVar ty a).run P w₁ := by
  simp only [results, h]
  simp [Sem.run_bind, Result.andThen]
theorem lit_one {w : World} {b : Nat} {a : Int} (h : w.cell? ⟨b, 0, none⟩ = some (.int .i8 a)) : Rd .i8 w w.heap.size (some ⟨b, 0, none⟩) [a] := fun _ => ⟨b, 0, rfl, World.block_lt_of_cell? w _ h, fun i hi => by
  obtain rfl : i = 0 := by simpa using hi
  exact h⟩
theorem lit_two {w : World} {b : Nat} {a c : Int} (h : w.cell? ⟨b, 0, none⟩ = some (.int .i8 a)) (h2 : w.cell? ⟨b, 1, none⟩ = some (.int .i8 c)) : Rd .i8 w w.heap.size (some ⟨b, 0, none⟩) [a, c] := fun _ => ⟨b, 0, rfl, World.block_lt_of_cell? w _ h, fun i hi => by
  have hi' : i < 2 := hi
  match i, hi' with
  | 0, _ => exact h
  | 1, _ => exact h2⟩
theorem lit_vec {w : World} {g n1 n2 : Nat} {a1 a2 : Option Addr} {c1 c2 : Nat} {v1 v2 : List Int} (h1 : w.cell? ⟨g, 0, none⟩ = some (.slice a1 v1.length c1)) (h2 : w.cell? ⟨g, 1, none⟩ = some (.slice a2 v2.length c2)) (r1 : Rd .i8 w w.heap.size a1 v1) (r2 : Rd .i8 w w.heap.size a2 v2) :
    RdV w w.heap.size (some ⟨g, 0, none⟩) [(a1, c1, v1), (a2, c2, v2)] := fun _ => by
  refine ⟨g, 0, rfl, World.block_lt_of_cell? w _ h1, fun i hi => ?_⟩
  have hi' : i < 2 := hi
  rw [Nat.zero_add]
  match i, hi' with
  | 0, _ => exact ⟨h1, r1⟩
  | 1, _ => exact ⟨h2, r2⟩
theorem lit_parts {w : World} {g : Nat} {a1 a2 : Option Addr} {c1 c2 : Nat} {v1 v2 : List Vc} (h1 : w.cell? ⟨g, 0, none⟩ = some (.slice a1 v1.length c1)) (h2 : w.cell? ⟨g, 1, none⟩ = some (.slice a2 v2.length c2)) (r1 : RdV w w.heap.size a1 v1) (r2 : RdV w w.heap.size a2 v2) :
    RdP w w.heap.size (some ⟨g, 0, none⟩) [(a1, c1, v1), (a2, c2, v2)] := fun _ => by
  refine ⟨g, 0, rfl, World.block_lt_of_cell? w _ h1, fun i hi => ?_⟩
  have hi' : i < 2 := hi
  rw [Nat.zero_add]
  match i, hi' with
  | 0, _ => exact ⟨h1, r1⟩
  | 1, _ => exact ⟨h2, r2⟩
set_option maxRecDepth 100000 in
set_option maxHeartbeats 1000000 in
theorem small_any (w : World) : Calls Try.prog 86 #[] w fun e w' => ∃ A L, e = .returned (.agg #[.int .i64 2, .slice A 2 2]) ∧ (L : List Pc).length = 2 ∧ PArg w' A L ∧ words L = smallW ∧ Below w.heap.size w w' := by
  go_enter Try.func86, Try.ntmps86
  go_wp2
  refine bodyPost_ret (v := .agg #[.int .i64 2, .slice (some ⟨w.heap.size + 1 + 1 + 1 + 1 + 1 + 1 + 1, 0, none⟩) 2 2]) (by rw [resCellS rfl]; go_simp) rfl ?_
  refine ⟨_, [(some ⟨w.heap.size + 1 + 1 + 1, 0, none⟩, 2, [(some ⟨w.heap.size + 1, 0, none⟩, 1, [0]), (some ⟨w.heap.size + 1 + 1, 0, none⟩, 1, [10])]), (some ⟨w.heap.size + 1 + 1 + 1 + 1 + 1 + 1, 0, none⟩, 2, [(some ⟨w.heap.size + 1 + 1 + 1 + 1, 0, none⟩, 2, [0, 0]), (some ⟨w.heap.size + 1 + 1 + 1 + 1 + 1, 0, none⟩, 2, [5, 5])])], rfl, rfl, ⟨?_, show sizeP smallW ≤ 20000 by decide +kernel, ?_⟩, rfl, ?_⟩
  · refine lit_parts (by simp [go_sem]) (by simp [go_sem]) (lit_vec (n1 := 0) (n2 := 0) (by simp [go_sem]) (by simp [go_sem]) (lit_one (by simp [go_sem])) (lit_one (by simp [go_sem]))) (lit_vec (n1 := 0) (n2 := 0) (by simp [go_sem]) (by simp [go_sem]) (lit_two (by simp [go_sem]) (by simp [go_sem])) (lit_two (by simp [go_sem]) (by simp [go_sem])))
  · show B88 smallW
    intro l hl v hv x hx
    unfold smallW at hl
    simp at hl
    rcases hl with rfl | rfl <;> simp at hv <;> rcases hv with rfl | rfl <;> simp at hx <;> subst hx <;> omega
  · repeat (first | exact Below.refl _ _ | apply below_one)
theorem ans_enc : encA 2 smallW [9, 1, 1] = [1, 0] ∧ errE (bookB 2 smallW 3) = 0 := by decide +kernel
theorem ans_dec : decA 2 smallW [1, 0] = [10, 0, 0] ∧ errE (decB 2 smallW [1, 0]) = 0 := by decide +kernel
theorem ans_dec2 : decA 2 smallW [2, 0] = [] ∧ errE (decB 2 smallW [2, 0]) = 1 := by decide +kernel
theorem ans_tab : tabA 2 smallW [9, 1, 1] = [[81, 1], [2, 32]] := by decide +kernel
theorem ans_look : lookA [[81, 1], [2, 32]] [1, 0] = 3 ∧ errE (lookB [[81, 1], [2, 32]] [1, 0]) = 0 := by decide +kernel
theorem ans_chk : bookB 2 smallW 2 = false ∧ bookB 2 smallW 3 = true := by decide +kernel
theorem lit_narg (w : World) (t : TypeId) (l : List Int) (hl : l.length ≤ 1000) (hb : ∀ x ∈ l, -128 ≤ x ∧ x ≤ 127) : NArg (w.alloc (.cells (l.map (Value.int .i8)).toArray t)) (some ⟨w.heap.size, 0, none⟩) l :=
  ⟨(rd_newF w .i8 t l (0, 0)).more (by simp), by omega, hb⟩
theorem lit_carg (w : World) (t : TypeId) (l : List Int) (hl : l.length ≤ 1000) (hb : ∀ x ∈ l, 0 ≤ x ∧ x ≤ 255) : CArg (w.alloc (.cells (l.map (Value.int .u8)).toArray t)) (some ⟨w.heap.size, 0, none⟩) l :=
  ⟨(rd_newF w .u8 t l (0, 0)).more (by simp), by omega, hb⟩
theorem enc_lit (hE : PqEncodeSpec) {w1 : World} {A : Option Addr} {L : List Pc} (hl : L.length = 2) (hp : PArg w1 A L) (hw : words L = smallW) :
    Calls Try.prog 32 #[.agg #[.int .i64 2, .slice A 2 2], .slice (some ⟨w1.heap.size, 0, none⟩) 3 3] (w1.alloc (.cells #[.int .i8 9, .int .i8 1, .int .i8 1] 79)) fun e w' => ∃ B c, e = .returned (.tuple #[.slice B 2 c, .int .i64 0]) ∧ Rd .u8 w' w'.heap.size B [1, 0] ∧ Below w1.heap.size w1 w' := by
  have hb : Below w1.heap.size w1 (w1.alloc (.cells #[.int .i8 9, .int .i8 1, .int .i8 1] 79)) := below_one (Below.refl _ _) _
  have q := hE 2 A 2 L (some ⟨w1.heap.size, 0, none⟩) 3 [9, 1, 1] _ (hp.below hb) (lit_narg w1 79 [9, 1, 1] (by decide) (by decide)) (by decide)
  rw [hl, hw, ans_enc.1] at q
  refine q.mono ?_
  rintro e w' ⟨B, c, rfl, ho, hb2⟩
  obtain ⟨B', c', hv, _, _, hrd, _⟩ := own_slice ho
  injection hv with q1 q2 q3
  refine ⟨B, c, ?_, by rw [q1]; exact hrd, hb.trans (hb2.mono (by simp))⟩
  rw [show errE (bookB 2 smallW (([9, 1, 1] : List Int).length : Int)) = 0 from ans_enc.2]
  rfl
theorem dec_lit (hD : PqDecodeSpec) {w1 : World} {A : Option Addr} {L : List Pc} (hl : L.length = 2) (hp : PArg w1 A L) (hw : words L = smallW) :
    Calls Try.prog 15 #[.agg #[.int .i64 2, .slice A 2 2], .slice (some ⟨w1.heap.size, 0, none⟩) 2 2] (w1.alloc (.cells #[.int .u8 1, .int .u8 0] 5)) fun e w' => ∃ B c, e = .returned (.tuple #[.slice B 3 c, .int .i64 0]) ∧ Rd .i8 w' w'.heap.size B [10, 0, 0] ∧ Below w1.heap.size w1 w' := by
  have hb : Below w1.heap.size w1 (w1.alloc (.cells #[.int .u8 1, .int .u8 0] 5)) := below_one (Below.refl _ _) _
  have q := hD 2 A 2 L (some ⟨w1.heap.size, 0, none⟩) 2 [1, 0] _ (hp.below hb) (lit_carg w1 5 [1, 0] (by decide) (by decide))
  rw [hl, hw, ans_dec.1, ans_dec.2] at q
  refine q.mono ?_
  rintro e w' ⟨B, c, rfl, ho, hb2⟩
  obtain ⟨B', c', hv, _, _, hrd, _⟩ := own_slice ho
  injection hv with q1 q2 q3
  exact ⟨B, c, rfl, by rw [q1]; exact hrd, hb.trans (hb2.mono (by simp))⟩
theorem dec_lit2 (hD : PqDecodeSpec) {w1 : World} {A : Option Addr} {L : List Pc} (hl : L.length = 2) (hp : PArg w1 A L) (hw : words L = smallW) :
    Calls Try.prog 15 #[.agg #[.int .i64 2, .slice A 2 2], .slice (some ⟨w1.heap.size, 0, none⟩) 2 2] (w1.alloc (.cells #[.int .u8 2, .int .u8 0] 5)) fun e w' => ∃ B c, e = .returned (.tuple #[.slice B 0 c, .int .i64 1]) ∧ Below w1.heap.size w1 w' := by
  have hb : Below w1.heap.size w1 (w1.alloc (.cells #[.int .u8 2, .int .u8 0] 5)) := below_one (Below.refl _ _) _
  have q := hD 2 A 2 L (some ⟨w1.heap.size, 0, none⟩) 2 [2, 0] _ (hp.below hb) (lit_carg w1 5 [2, 0] (by decide) (by decide))
  rw [hl, hw, ans_dec2.1, ans_dec2.2] at q
  refine q.mono ?_
  rintro e w' ⟨B, c, rfl, ho, hb2⟩
  exact ⟨B, c, rfl, hb.trans (hb2.mono (by simp))⟩
theorem tab_lit (hT : PqTableSpec) {w1 : World} {A : Option Addr} {L : List Pc} (hl : L.length = 2) (hp : PArg w1 A L) (hw : words L = smallW) :
    Calls Try.prog 29 #[.agg #[.int .i64 2, .slice A 2 2], .slice (some ⟨w1.heap.size, 0, none⟩) 3 3] (w1.alloc (.cells #[.int .i8 9, .int .i8 1, .int .i8 1] 79)) fun e w' => ∃ B c T, e = .returned (.tuple #[.slice B 2 c, .int .i64 0]) ∧ (T : List Vc).length = 2 ∧ RdT w' w'.heap.size B T ∧ vecs T = [[81, 1], [2, 32]] ∧ Below w1.heap.size w1 w' := by
  have hb : Below w1.heap.size w1 (w1.alloc (.cells #[.int .i8 9, .int .i8 1, .int .i8 1] 79)) := below_one (Below.refl _ _) _
  have q := hT 2 A 2 L (some ⟨w1.heap.size, 0, none⟩) 3 [9, 1, 1] _ (hp.below hb) (lit_narg w1 79 [9, 1, 1] (by decide) (by decide)) (by decide)
  rw [hl, hw, ans_tab] at q
  refine q.mono ?_
  rintro e w' ⟨B, c, T, rfl, ho, ha, hv, hb2⟩
  have hT2 : T.length = 2 := by have := congrArg List.length hv; rwa [vecs_len] at this
  refine ⟨B, c, T, ?_, hT2, ho.rd, hv, hb.trans (hb2.mono (by simp))⟩
  rw [hT2, show errE (bookB 2 smallW (([9, 1, 1] : List Int).length : Int)) = 0 from ans_enc.2]
theorem look_lit (hL : PqLookSpec) {w1 : World} {A B : Option Addr} {c d : Nat} {T : List Vc} (hl : T.length = 2) (hp : RdT w1 w1.heap.size A T) (hw : vecs T = [[81, 1], [2, 32]]) (hc : Rd .u8 w1 w1.heap.size B [1, 0]) :
    Calls Try.prog 25 #[.slice A 2 c, .slice B 2 d] w1 fun e w' => e = .returned (.tuple #[.int .i64 3, .int .i64 0]) ∧ Below w1.heap.size w1 w' := by
  have q := hL A c T B d [1, 0] w1 ⟨hp, by omega, fun v hv => by rw [hw] at hv; simp at hv; rcases hv with rfl | rfl <;> simp⟩ ⟨hc, by simp, by decide⟩
  rw [hl, hw, ans_look.1, ans_look.2] at q
  exact q
theorem chk_lit (hC : PqCheckSpec) {w1 : World} {A : Option Addr} {L : List Pc} (hl : L.length = 2) (hp : PArg w1 A L) (hw : words L = smallW) (n : Int) (b : Bool) (hn : bookB 2 smallW n = b) :
    Calls Try.prog 30 #[.agg #[.int .i64 2, .slice A 2 2], .int .i64 n] w1 fun e w' => e = .returned (.bool b) ∧ Below w1.heap.size w1 w' := by
  have q := hC 2 A 2 L n w1 hp
  rw [hl, hw, hn] at q
  exact q
set_option maxRecDepth 100000 in
set_option maxHeartbeats 4000000 in
theorem alive8_any (hC : PqCheckSpec) (hE : PqEncodeSpec) (hD : PqDecodeSpec) (hT : PqTableSpec) (hL : PqLookSpec) (w : World) : Calls Try.prog 28 #[] w fun e w' => e = .returned (.bool true) ∧ Below w.heap.size w w' := by
  have HC := Lib.hid hC
  have HE := Lib.hid hE
  have HD := Lib.hid hD
  have HT := Lib.hid hT
  have HL := Lib.hid hL
  have SM := Lib.hid small_any
  clear hC hE hD hT hL
  go_enter Try.func28, Try.ntmps28
  go_wp2_with fail
  refine (SM.out _).mono ?_
  rintro e w1 ⟨A1, L1, rfl, hl1, hp1, hw1, hb1⟩
  dsimp only
  go_wp2_with fail
  refine (enc_lit HE.out hl1 hp1 hw1).mono ?_
  rintro e w2 ⟨B2, c2, rfl, r2, hb2⟩
  have HB2 := Lib.hid (hb1.trans (hb2.mono hb1.size))
  have R2 := Lib.hid r2
  clear hb1 hb2 r2 hp1 hl1 hw1
  dsimp only
  go_wp2_with fail
  refine (SM.out _).mono ?_
  rintro e w3 ⟨A3, L3, rfl, hl3, hp3, hw3, hb3⟩
  dsimp only
  go_wp2_with fail
  refine (dec_lit HD.out hl3 hp3 hw3).mono ?_
  rintro e w4 ⟨B4, c4, rfl, r4, hb4⟩
  have cw4 := hb3.trans (hb4.mono hb3.size)
  have HB4 := Lib.hid (HB2.out.trans (cw4.mono HB2.out.size))
  have R2 := Lib.hid ((R2.out.below cw4).more cw4.size)
  have R4 := Lib.hid r4
  clear hb3 hb4 cw4 r4 hp3 hl3 hw3 HB2
  dsimp only
  go_wp2_with fail
  refine (SM.out _).mono ?_
  rintro e w5 ⟨A5, L5, rfl, hl5, hp5, hw5, hb5⟩
  dsimp only
  go_wp2_with fail
  refine (tab_lit HT.out hl5 hp5 hw5).mono ?_
  rintro e w6 ⟨B6, c6, T, rfl, hTl, rT, hTv, hb6⟩
  have cw6 := hb5.trans (hb6.mono hb5.size)
  have HB6 := Lib.hid (HB4.out.trans (cw6.mono HB4.out.size))
  have R2 := Lib.hid ((R2.out.below cw6).more cw6.size)
  have R4 := Lib.hid ((R4.out.below cw6).more cw6.size)
  have LK := Lib.hid (look_lit (c := c6) (d := c2) HL.out hTl rT hTv R2.out)
  clear hb5 hb6 cw6 hp5 hl5 hw5 HB4 hTl rT hTv
  dsimp only
  go_wp2_with fail
  refine LK.out.mono ?_
  rintro e w7 ⟨rfl, hb7⟩
  have HB7 := Lib.hid (HB6.out.trans (hb7.mono HB6.out.size))
  have R2 := Lib.hid ((R2.out.below hb7).more hb7.size)
  have R4 := Lib.hid ((R4.out.below hb7).more hb7.size)
  clear hb7 HB6 LK
  dsimp only
  go_wp2_with fail
  refine (SM.out _).mono ?_
  rintro e w8 ⟨A8, L8, rfl, hl8, hp8, hw8, hb8⟩
  dsimp only
  go_wp2_with fail
  refine (dec_lit2 HD.out hl8 hp8 hw8).mono ?_
  rintro e w9 ⟨B9, c9, rfl, hb9⟩
  have cw9 := hb8.trans (hb9.mono hb8.size)
  have HB9 := Lib.hid (HB7.out.trans (cw9.mono HB7.out.size))
  have R2 := Lib.hid ((R2.out.below cw9).more cw9.size)
  have R4 := Lib.hid ((R4.out.below cw9).more cw9.size)
  clear hb8 hb9 cw9 hp8 hl8 hw8 HB7
  dsimp only
  go_wp2_with fail
  refine (SM.out _).mono ?_
  rintro e w10 ⟨A10, L10, rfl, hl10, hp10, hw10, hb10⟩
  dsimp only
  go_wp2_with fail
  refine (chk_lit HC.out hl10 hp10 hw10 3 true ans_chk.2).mono ?_
  rintro e w11 ⟨rfl, hb11⟩
  have cw11 := hb10.trans (hb11.mono hb10.size)
  have HB11 := Lib.hid (HB9.out.trans (cw11.mono HB9.out.size))
  have R2 := Lib.hid ((R2.out.below cw11).more cw11.size)
  have R4 := Lib.hid ((R4.out.below cw11).more cw11.size)
  clear hb10 hb11 cw11 hp10 hl10 hw10 HB9
  dsimp only
  go_wp2_with fail
  refine (SM.out _).mono ?_
  rintro e w12 ⟨A12, L12, rfl, hl12, hp12, hw12, hb12⟩
  dsimp only
  go_wp2_with fail
  refine (chk_lit HC.out hl12 hp12 hw12 2 false ans_chk.1).mono ?_
  rintro e w13 ⟨rfl, hb13⟩
  have cw13 := hb12.trans (hb13.mono hb12.size)
  have HB13 := Lib.hid (HB11.out.trans (cw13.mono HB11.out.size))
  have R2 := Lib.hid ((R2.out.below cw13).more cw13.size)
  have R4 := Lib.hid ((R4.out.below cw13).more cw13.size)
  clear hb12 hb13 cw13 hp12 hl12 hw12 HB11
  dsimp only
  go_wp2_with fail
  have hb14 : Below w13.heap.size w13 (w13.alloc (.cells #[.int .u8 1, .int .u8 0] 5)) := below_one (Below.refl _ _) _
  have SB := sameB_any B2 (some ⟨w13.heap.size, 0, none⟩) c2 2 [1, 0] [1, 0] (w13.alloc (.cells #[.int .u8 1, .int .u8 0] 5)) _ ((R2.out.below hb14).more hb14.size) (rd_newF w13 .u8 5 [1, 0] (0, 0) |>.more (by simp)) (by decide) (by decide)
  refine SB.mono ?_
  rintro e w14 ⟨rfl, nq, rfl⟩
  have cw14 : Below w13.heap.size w13 ((w13.alloc (.cells #[.int .u8 1, .int .u8 0] 5)).drewN nq) := below_drewN hb14 nq
  have HB14 := Lib.hid (HB13.out.trans (cw14.mono HB13.out.size))
  have R4 := Lib.hid ((R4.out.below cw14).more cw14.size)
  obtain ⟨w15, ew15⟩ : ∃ w15, (w13.alloc (.cells #[.int .u8 1, .int .u8 0] 5)).drewN nq = w15 := ⟨_, rfl⟩
  rw [ew15] at R4 HB14 ⊢
  rw [show eqB ([1, 0] : List Int) [1, 0] = true from by decide]
  clear hb14 cw14 ew15 SB HB13
  dsimp only
  go_wp2_with fail
  have hb16 : Below w15.heap.size w15 (w15.alloc (.cells #[.int .i8 10, .int .i8 0, .int .i8 0] 79)) := below_one (Below.refl _ _) _
  have S8 := same8_any B4 (some ⟨w15.heap.size, 0, none⟩) c4 3 [10, 0, 0] [10, 0, 0] (w15.alloc (.cells #[.int .i8 10, .int .i8 0, .int .i8 0] 79)) _ ((R4.out.below hb16).more hb16.size) (rd_newF w15 .i8 79 [10, 0, 0] (0, 0) |>.more (by simp)) (by decide) (by decide)
  refine S8.mono ?_
  rintro e w16 ⟨rfl, nq2, rfl⟩
  have cw16 : Below w15.heap.size w15 ((w15.alloc (.cells #[.int .i8 10, .int .i8 0, .int .i8 0] 79)).drewN nq2) := below_drewN hb16 nq2
  have HB16 := Lib.hid (HB14.out.trans (cw16.mono HB14.out.size))
  rw [show eqB ([10, 0, 0] : List Int) [10, 0, 0] = true from by decide]
  clear hb16 cw16 S8 HB14
  dsimp only
  go_wp2
  go_ret
  exact ⟨rfl, HB16.out⟩
end Go.Proofs.Ythbimjkcpmffcaa
