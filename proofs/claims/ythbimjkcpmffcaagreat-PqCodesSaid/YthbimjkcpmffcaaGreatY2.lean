/- The walk of the document's Encode (layer 8). -/
import Derived.Test.YthbimjkcpmffcaaGreatPj
import Derived.Test.YthbimjkcpmffcaaGreatWh
import Derived.Test.YthbimjkcpmffcaaGreatNb
namespace Go.Proofs.YthbimjkcpmffcaaGreat
open Go.RowKit
set_option linter.unusedVariables false
set_option maxRecDepth 100000 in
set_option maxHeartbeats 4000000 in
theorem rEncode_any (P : Int) (A : Option Addr) (c : Nat) (L : List Pc) (B : Option Addr) (d : Nat) (v : List Int) (w : World) (hx : PArg w A L) (hy : NArg w B v) (hd : v.length ≤ d) :
    Calls Tryz.prog 11 #[.agg #[.int .i64 P, .slice A L.length c], .slice B v.length d] w (NAns w .u8 5 (encA P (words L) v) (errE (bookB P (words L) v.length))) := by
  have W0 := Whole.new w 24 #[.int .i64 P, .slice A L.length c]
  have B0 : Below w.heap.size w (w.alloc (.cells #[.int .i64 P, .slice A L.length c] 24)) := below_one (Below.refl _ _) _
  have HX := Lib.hid (hx.below B0)
  have HY := Lib.hid (hy.below B0)
  have hlen := hx.sm.len
  have hvl := hy.len
  have HL := Lib.hid (words_len L)
  have HSM := Lib.hid hx.sm
  have HW0 := Lib.hid W0
  have HB0 := Lib.hid B0
  have CK := Lib.hid (rCheck_any P A c L v.length _ (hx.below B0))
  have p0 := W0.cell 0
  have p1 := W0.cell 1
  have HD := Lib.hid hd
  clear W0 B0 hx hy hd
  cases hb : bookB P (words L) v.length with
  | false =>
    rw [hb] at CK
    have hda : encA P (words L) v = [] := by unfold encA; rw [hb]; rfl
    rw [hda, errE_false]
    clear hb hda
    go_enter Tryz.func11, Tryz.ntmps11
    go_wp2_with fail
    refine CK.out.mono ?_
    rintro e w1 ⟨rfl, b⟩
    have HBE := Lib.hid (HB0.out.trans (b.mono HB0.out.size))
    clear p0 p1
    go_wp2
    go_ret2
    exact NAns.nil _ _ _ _ HBE.out
  | true =>
    obtain ⟨hP, hok⟩ := bookB_yes hb
    have hPL : P = (L.length : Int) := by rw [← hP, HL.out]
    subst hPL
    rw [hb] at CK
    have hda : encA (L.length : Int) (words L) v = encL (words L) v := by unfold encA; rw [hb]; rfl
    rw [hda, errE_true]
    obtain ⟨i0, hi, hz0, hz1, hz2⟩ := info_parts Tryz.info5
    have HOK := Lib.hid hok
    have hn1 : 1 ≤ L.length := by have := hok.2.2.1; rw [HL.out] at this; exact this
    have hnd : L.length ≤ v.length := by have := hok.2.2.2.1; rw [HL.out] at this; exact this
    have hd2 : v.length ≤ 64 := hok.2.1
    clear hb hok hP hda
    go_enter Tryz.func11, Tryz.ntmps11
    go_wp2_with fail
    obtain ⟨bx, ebx⟩ : ∃ bx, w.heap.size = bx := ⟨_, rfl⟩
    obtain ⟨w0, ew0⟩ : ∃ w0, w.alloc (.cells #[.int .i64 (L.length : Int), .slice A L.length c] 24) = w0 := ⟨_, rfl⟩
    rw [ew0] at HX HY HB0 HW0 CK
    rw [ebx] at HW0
    rw [ew0, ebx]
    have HEB := Lib.hid ebx
    clear ebx ew0 p0 p1
    refine CK.out.mono ?_
    rintro e w1 ⟨rfl, b⟩
    have HX1 := Lib.hid (HX.out.below b)
    have HY1 := Lib.hid (HY.out.below b)
    have HW1 := Lib.hid (HW0.out.below b HW0.out.lt)
    have HB1 := Lib.hid (HB0.out.trans (b.mono HB0.out.size))
    clear b HX HY HW0 HB0 CK
    go_wp2
    have A0 : Hid (w1.ownsRow w1.heap.size 5 1 (.slice none 0 0) 0 ((encK (words L) v 0).map (Value.int .u8))) := Lib.hid (own_nil_row _ _ _)
    have A1 : Hid (Whole w1 bx 24 #[.int .i64 (L.length : Int), .slice A L.length c] ∧ Below w1.heap.size w1 w1) := Lib.hid ⟨HW1.out, Below.refl _ _⟩
    go_loopw [6, 7] (fun s i wr => ∃ (k : Nat) (VA : Option Addr) (vc : Nat), k ≤ L.length ∧ i = .int .i64 k ∧ s = .slice VA k vc ∧ Hid (wr.ownsRow w1.heap.size 5 1 (.slice VA k vc) k ((encK (words L) v k).map (Value.int .u8))) ∧ Hid (Whole wr bx 24 #[.int .i64 (L.length : Int), .slice A L.length c] ∧ Below w1.heap.size w1 wr)) (fun _ i _ => L.length - (intOf i).toNat)
    case atStart => exact ⟨0, none, 0, by omega, rfl, rfl, A0, A1⟩
    case round =>
      clear A0 A1
      obtain ⟨k, VA, vc, hk, rfl, rfl, HO, HI⟩ := hrel
      have p0 : wr.cell? ⟨bx, 0, none⟩ = some (.int .i64 (L.length : Int)) := HI.out.1.cell 0
      have p1 : wr.cell? ⟨bx, 1, none⟩ = some (.slice A L.length c) := HI.out.1.cell 1
      by_cases hlt : k < L.length
      · have eL : decide ((k : Int) < (L.length : Int)) = true := decide_eq_true (by omega)
        obtain ⟨b, off, a1, c1, M, hA, hBk, hck, hG, hv1⟩ := (HX1.out.below HI.out.2).at_ hlt
        rw [hA] at p1
        have hY := HY1.out.below HI.out.2
        obtain ⟨bb, bo, rfl, -, -⟩ := hY.rd (by omega)
        have EM := Lib.hid (show pAt (words L) k = vecs M from words_pAt hv1.out)
        have hkw : k < (words L).length := by rw [HL.out]; exact hlt
        have hmay := HOK.out.mayM hkw
        have hml : 1 ≤ M.length ∧ M.length ≤ 64 := by
          have h := HOK.out.2.2.2.2 k hkw
          have h1 := h.1
          have h2 := h.2.1
          rw [EM.out, vecs_len] at h1 h2
          exact ⟨h1, h2⟩
        have hnn := nearestI_lt (ms := pAt (words L) k) (partAt v k (words L).length) (by rw [EM.out, vecs_len]; exact hml.1)
        have hpe : partAt v k (words L).length = seg v (beg k L.length v.length) (beg (k + 1) L.length v.length) := by unfold partAt; rw [HL.out]
        have ES := Lib.hid (encK_succ (words L) v k)
        have hbl : beg (k + 1) L.length v.length ≤ v.length := beg_le hn1 (by omega)
        have BM := beg_mono (p := k) (q := k + 1) (n := L.length) (d := v.length) (by omega)
        have BG1 : Hid (∀ (W : World), Calls Tryz.prog 35 #[.int .i64 ((k : Int) + 1), .int .i64 (L.length : Int), .int .i64 (v.length : Int)] W fun e w' => e = .returned (.int .i64 ((beg (k + 1) L.length v.length : Nat) : Int)) ∧ w' = W) := Lib.hid (fun W => by
          have := begins_any (k + 1) L.length v.length hn1 (by omega) (by omega) hd2 W
          rw [show ((k + 1 : Nat) : Int) = (k : Int) + 1 by omega] at this
          exact this.mono fun _ _ h => ⟨h.1, h.2.symm⟩)
        have BG0 : Hid (∀ W, Calls Tryz.prog 35 #[.int .i64 (k : Int), .int .i64 (L.length : Int), .int .i64 (v.length : Int)] W fun e w' => e = .returned (.int .i64 ((beg k L.length v.length : Nat) : Int)) ∧ w' = W) := Lib.hid (fun W => (begins_any k L.length v.length hn1 (by omega) (by omega) hd2 W).mono fun _ _ h => ⟨h.1, h.2.symm⟩)
        have BS := beg_step (p := k) (n := L.length) (d := v.length) hn1 hnd
        rw [hpe] at hmay hnn ES
        obtain ⟨y1, ey1⟩ : ∃ y, beg (k + 1) L.length v.length = y := ⟨_, rfl⟩
        obtain ⟨y0, ey0⟩ : ∃ y, beg k L.length v.length = y := ⟨_, rfl⟩
        rw [ey1] at BG1 BM BS hbl hmay hnn ES
        rw [ey0] at BG0 BM BS hmay hnn ES
        rw [EM.out] at hmay hnn ES
        rw [vecs_len] at hnn
        obtain ⟨nn, enn⟩ : ∃ nn, nearestI (vecs M) (seg v y0 y1) = nn := ⟨_, rfl⟩
        rw [enn] at hnn ES
        have hM : VArg wr a1 M := ⟨hG.rd, by omega, fun u hu => by have := (HSM.out.at_ (List.mem_of_getElem? hv1.out)).vec hu; omega, hG.b8⟩
        have hsl : (seg v y0 y1).length = y1 - y0 := seg_len hbl
        have hN : NArg wr (some ⟨bb, bo + y0, none⟩) (seg v y0 y1) := ⟨rd_seg hY.rd hbl, by rw [hsl]; have := hY.len; omega, fun x hx => hY.b8 x (List.mem_of_mem_drop (List.mem_of_mem_take hx))⟩
        have NE : Hid (∀ W, Below wr.heap.size wr W → Calls Tryz.prog 34 #[.slice a1 M.length c1, .slice (some ⟨bb, bo + y0, none⟩) (y1 - y0) (d - y0)] W fun e w' => e = .returned (.tuple #[.int .i64 (nn : Int), .int .i64 0]) ∧ w'.cell? ⟨bx, 0, none⟩ = some (.int .i64 (L.length : Int)) ∧ w'.cell? ⟨bx, 1, none⟩ = some (.slice (some ⟨b, off, none⟩) L.length c) ∧ w'.cell? ⟨b, off + k, none⟩ = some (.slice a1 M.length c1) ∧ Below wr.heap.size wr w') := Lib.hid (fun W hq => by
          have h := refNear_any a1 c1 M (some ⟨bb, bo + y0, none⟩) (d - y0) (seg v y0 y1) W (hM.below hq) (hN.below hq)
          rw [hsl, hmay, show nearA (vecs M) (seg v y0 y1) = (nn : Int) by unfold nearA; rw [hmay, enn]; rfl] at h
          exact h.mono fun e w' h2 => (by
            have hq2 := hq.trans (h2.2.mono hq.size)
            exact ⟨h2.1, (HI.out.1.below hq2 HI.out.1.lt).cell 0, by have z := (HI.out.1.below hq2 HI.out.1.lt).cell 1; rw [hA] at z; exact z, (hq2.cell (p := ⟨b, off + k, none⟩) hBk).trans hck, hq2⟩))
        have hdd := HD.out
        have dn : (d = y0) = False := by simp; omega
        have g1 : (0 : Int) ≤ (k : Int) := by omega
        have g2 : (k : Int) < (L.length : Int) := by omega
        have g3 : (0 : Int) ≤ (y0 : Int) := by omega
        have g4 : (y0 : Int) ≤ (y1 : Int) := by omega
        have g5 : (y1 : Int) ≤ (d : Int) := by omega
        have s1 : ((y1 : Int) - (y0 : Int)).toNat = y1 - y0 := by omega
        have s2 : ((d : Int) - (y0 : Int)).toNat = d - y0 := by omega
        have wk1 : IntKind.i64.wrap ((k : Int) + 1) = (k : Int) + 1 := by rw [IntKind.wrap_i64]; omega
        have wk : IntKind.u8.wrap (nn : Int) = (nn : Int) := by rw [IntKind.wrap_u8]; omega
        have bw := HI.out.2.size
        clear hG hv1 EM hkw hmay hpe hM hN hsl hY ey0 ey1 enn hA hml hbl
        go_wp2
        have BG1 := Lib.hid (fun (W : World) (h0 : W.cell? ⟨bx, 0, none⟩ = some (.int .i64 (L.length : Int))) (h1 : W.cell? ⟨bx, 1, none⟩ = some (.slice (some ⟨b, off, none⟩) L.length c)) (h2 : W.cell? ⟨b, off + k, none⟩ = some (.slice a1 M.length c1)) (hb : Below wr.heap.size wr W) => ((BG1.out W).mono fun e w' h => (by obtain ⟨r1, rfl⟩ := h; exact ⟨r1, h0, h1, h2, hb⟩ : e = .returned (.int .i64 (y1 : Int)) ∧ w'.cell? ⟨bx, 0, none⟩ = some (.int .i64 (L.length : Int)) ∧ w'.cell? ⟨bx, 1, none⟩ = some (.slice (some ⟨b, off, none⟩) L.length c) ∧ w'.cell? ⟨b, off + k, none⟩ = some (.slice a1 M.length c1) ∧ Below wr.heap.size wr w')))
        have BG0 := Lib.hid (fun (W : World) (h0 : W.cell? ⟨bx, 0, none⟩ = some (.int .i64 (L.length : Int))) (h1 : W.cell? ⟨bx, 1, none⟩ = some (.slice (some ⟨b, off, none⟩) L.length c)) (h2 : W.cell? ⟨b, off + k, none⟩ = some (.slice a1 M.length c1)) (hb : Below wr.heap.size wr W) => ((BG0.out W).mono fun e w' h => (by obtain ⟨r1, rfl⟩ := h; exact ⟨r1, h0, h1, h2, hb⟩ : e = .returned (.int .i64 (y0 : Int)) ∧ w'.cell? ⟨bx, 0, none⟩ = some (.int .i64 (L.length : Int)) ∧ w'.cell? ⟨bx, 1, none⟩ = some (.slice (some ⟨b, off, none⟩) L.length c) ∧ w'.cell? ⟨b, off + k, none⟩ = some (.slice a1 M.length c1) ∧ Below wr.heap.size wr w')))
        have q0 : wr.drew.cell? ⟨bx, 0, none⟩ = some (.int .i64 (L.length : Int)) := p0
        have q1 : wr.drew.cell? ⟨bx, 1, none⟩ = some (.slice (some ⟨b, off, none⟩) L.length c) := p1
        have q2 : wr.drew.cell? ⟨b, off + k, none⟩ = some (.slice a1 M.length c1) := hck
        have qb : Below wr.heap.size wr wr.drew := (Below.refl _ _).drew
        go_region_held3 (fun w' => w'.cell? ⟨bx, 0, none⟩ = some (.int .i64 (L.length : Int)) ∧ w'.cell? ⟨bx, 1, none⟩ = some (.slice (some ⟨b, off, none⟩) L.length c) ∧ w'.cell? ⟨b, off + k, none⟩ = some (.slice a1 M.length c1) ∧ Below wr.heap.size wr w')
          (first | exact ⟨by with_reducible assumption, by with_reducible assumption, by with_reducible assumption, by with_reducible assumption⟩)
          (first
            | (go_at_call 35; (with_reducible refine (BG1.out _ (by with_reducible assumption) (by with_reducible assumption) (by with_reducible assumption) (by with_reducible assumption)).mono ?_); rintro e w2 ⟨rfl, ka0, ka1, ka2, kab⟩)
            | (go_at_call 35; (with_reducible refine (BG0.out _ (by with_reducible assumption) (by with_reducible assumption) (by with_reducible assumption) (by with_reducible assumption)).mono ?_); rintro e w3 ⟨rfl, kc0, kc1, kc2, kcb⟩)
            | (go_at_call 34; (with_reducible refine (NE.out _ (by with_reducible assumption)).mono ?_); rintro e w5 ⟨rfl, ke0, ke1, ke2, b5⟩))
        all_goals
          have hown := own_below HO.out b5
          have HI5 := Lib.hid (⟨HI.out.1.below b5 HI.out.1.lt, HI.out.2.trans (b5.mono bw)⟩ : Whole w5 bx 24 #[.int .i64 (L.length : Int), .slice A L.length c] ∧ Below w1.heap.size w1 w5)
          have hz := HI5.out.2.size
          have HR := Lib.hid (show (encK (words L) v k).map (Value.int .u8) ++ [.int .u8 (nn : Int)] = (encK (words L) v (k + 1)).map (Value.int .u8) by rw [ES.out, List.map_append]; rfl)
          clear b5 HO p0 p1 NE BG0 BG1 hck ke0 ke1 ke2 q0 q1 q2 qb
          go_wp2_with (at_builtin; refine wpList_append_own _ rfl _ _ 30 rfl w1.heap.size 5 i0 (.int .u8 0) 1 1 Tryz.underlying30 hi hz0 hz1 hz2 rfl (by decide) _ _ _ rfl (hown.alloc _) ⟨w5.heap.size, 0, none⟩ 1 1 [.int .u8 (nn : Int)] rfl rfl (cell_one_new _ _ _) (by simp [Value.oneCell']) (by show k + 1 ≤ 9223372036854775807; omega) (by omega) (by simp; omega) ?_; intro v' w6 hown' hgrow _)
          rw [HR.out] at hown'
          have hB6 := (HI5.out.2.alloc hz (.cells #[.int .u8 (nn : Int)] 5)).grown hgrow (by simp; omega) (fun r hr => (hown.lt r hr).1)
          have HI6 := Lib.hid (⟨HW1.out.below hB6 HW1.out.lt, hB6⟩ : Whole w6 bx 24 #[.int .i64 (L.length : Int), .slice A L.length c] ∧ Below w1.heap.size w1 w6)
          obtain ⟨V4, m4, c4, rfl⟩ := own_form hown'
          obtain rfl := own_len hown'
          have HO6 := Lib.hid hown'
          clear hown' hgrow hB6 hown
          go_roundw
          case rel => exact ⟨k + 1, V4, c4, by omega, by go_num, rfl, HO6, HI6⟩
          case measure => simp [intOf]; omega
      · obtain rfl : k = L.length := by omega
        have eL : decide ((L.length : Int) < (L.length : Int)) = false := decide_eq_false (by omega)
        have ED : Hid (encK (words L) v L.length = encL (words L) v) := Lib.hid (by unfold encK encL; rw [HL.out])
        have EN : Hid ((encL (words L) v).length = L.length) := Lib.hid (by rw [← ED.out, encK_len])
        have HBE := Lib.hid (HB1.out.trans (HI.out.2.mono HB1.out.size))
        go_wp2
        go_ret2
        have h := own_base HO.out HB1.out.size
        rw [ED.out] at h
        exact ⟨VA, vc, by rw [EN.out]; rfl, by rw [EN.out]; exact h, HBE.out⟩
end Go.Proofs.YthbimjkcpmffcaaGreat
