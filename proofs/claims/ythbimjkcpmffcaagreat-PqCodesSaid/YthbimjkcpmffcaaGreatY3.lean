/- The walk of the document's Table (layer 8). -/
import Derived.Test.YthbimjkcpmffcaaGreatPj
import Derived.Test.YthbimjkcpmffcaaGreatWj
import Derived.Deep.AppendLies
namespace Go.Proofs.YthbimjkcpmffcaaGreat
open Go.RowKit
set_option linter.unusedVariables false
/-- The document's answer that is a table. -/
def RTAns (w : World) (ws : List (List Int)) (E : Int) (e : Ending) (w' : World) : Prop :=
  ∃ A c T, e = .returned (.tuple #[.slice A (T : List Vc).length c, .int .i64 E]) ∧ OwnT w' w.heap.size A c T ∧ vecs T = ws ∧ Below w.heap.size w w'
set_option maxRecDepth 100000 in
set_option maxHeartbeats 4000000 in
theorem rTable_any (P : Int) (A : Option Addr) (c : Nat) (L : List Pc) (B : Option Addr) (d : Nat) (v : List Int) (w : World) (hx : PArg w A L) (hy : NArg w B v) (hd : v.length ≤ d) :
    Calls Tryz.prog 12 #[.agg #[.int .i64 P, .slice A L.length c], .slice B v.length d] w (RTAns w (tabA P (words L) v) (errE (bookB P (words L) v.length))) := by
  have W0 := Whole.new w 24 #[.int .i64 P, .slice A L.length c]
  have B0 : Below w.heap.size w (w.alloc (.cells #[.int .i64 P, .slice A L.length c] 24)) := below_one (Below.refl _ _) _
  have HX := Lib.hid (hx.below B0)
  have HY := Lib.hid (hy.below B0)
  have hlen := hx.sm.len
  have hvl := hy.len
  have HL := Lib.hid (words_len L)
  have HSM := Lib.hid hx.sm
  have HW0 := Lib.hid W0
  have HB0 := Lib.hid B0
  have CK := Lib.hid (rCheck_any P A c L v.length _ (hx.below B0))
  have p0 := W0.cell 0
  have p1 := W0.cell 1
  have HD := Lib.hid hd
  clear W0 B0 hx hy hd
  cases hb : bookB P (words L) v.length with
  | false =>
    rw [hb] at CK
    have hda : tabA P (words L) v = [] := by unfold tabA; rw [hb]; rfl
    rw [hda, errE_false]
    clear hb hda
    go_enter Tryz.func12, Tryz.ntmps12
    go_wp2_with fail
    refine CK.out.mono ?_
    rintro e w1 ⟨rfl, b⟩
    have HBE := Lib.hid (HB0.out.trans (b.mono HB0.out.size))
    clear p0 p1
    go_wp2
    go_ret2
    exact ⟨none, 0, [], rfl, ⟨own_nil_row _ _ _, fun x hx => by simp at hx⟩, rfl, HBE.out⟩
  | true =>
    obtain ⟨hP, hok⟩ := bookB_yes hb
    have hPL : P = (L.length : Int) := by rw [← hP, HL.out]
    subst hPL
    rw [hb] at CK
    have hda : tabA (L.length : Int) (words L) v = tabL (words L) v := by unfold tabA; rw [hb]; rfl
    rw [hda, errE_true]
    obtain ⟨i0, hi, hz0, hz1, hz2⟩ := info_parts Tryz.info5
    have HOK := Lib.hid hok
    have hn1 : 1 ≤ L.length := by have := hok.2.2.1; rw [HL.out] at this; exact this
    have hnd : L.length ≤ v.length := by have := hok.2.2.2.1; rw [HL.out] at this; exact this
    have hd2 : v.length ≤ 64 := hok.2.1
    clear hb hok hP hda
    go_enter Tryz.func12, Tryz.ntmps12
    go_wp2_with fail
    obtain ⟨bx, ebx⟩ : ∃ bx, w.heap.size = bx := ⟨_, rfl⟩
    obtain ⟨w0, ew0⟩ : ∃ w0, w.alloc (.cells #[.int .i64 (L.length : Int), .slice A L.length c] 24) = w0 := ⟨_, rfl⟩
    rw [ew0] at HX HY HB0 HW0 CK
    rw [ebx] at HW0
    rw [ew0, ebx]
    have HEB := Lib.hid ebx
    clear ebx ew0 p0 p1
    refine CK.out.mono ?_
    rintro e w1 ⟨rfl, b⟩
    have HX1 := Lib.hid (HX.out.below b)
    have HY1 := Lib.hid (HY.out.below b)
    have HW1 := Lib.hid (HW0.out.below b HW0.out.lt)
    have HB1 := Lib.hid (HB0.out.trans (b.mono HB0.out.size))
    clear b HX HY HW0 HB0 CK
    go_wp2
    have A0 : Hid (OwnT w1 w1.heap.size none 0 [] ∧ vecs ([] : List Vc) = tabK (words L) v 0) := Lib.hid ⟨⟨own_nil_row _ _ _, fun x hx => by simp at hx⟩, rfl⟩
    have A1 : Hid (Whole w1 bx 24 #[.int .i64 (L.length : Int), .slice A L.length c] ∧ Below w1.heap.size w1 w1) := Lib.hid ⟨HW1.out, Below.refl _ _⟩
    go_loopw [6, 7] (fun s i wr => ∃ (k : Nat) (VA : Option Addr) (vc : Nat) (T : List Vc), k ≤ L.length ∧ i = .int .i64 k ∧ s = .slice VA T.length vc ∧ T.length = k ∧ Hid (OwnT wr w1.heap.size VA vc T ∧ vecs T = tabK (words L) v k) ∧ Hid (Whole wr bx 24 #[.int .i64 (L.length : Int), .slice A L.length c] ∧ Below w1.heap.size w1 wr)) (fun _ i _ => L.length - (intOf i).toNat)
    case atStart => exact ⟨0, none, 0, [], by omega, rfl, rfl, rfl, A0, A1⟩
    case round =>
      clear A0 A1
      obtain ⟨k, VA, vc, T, hk, rfl, rfl, hTk, HO, HI⟩ := hrel
      have HTK := Lib.hid hTk
      clear hTk
      have p0 : wr.cell? ⟨bx, 0, none⟩ = some (.int .i64 (L.length : Int)) := HI.out.1.cell 0
      have p1 : wr.cell? ⟨bx, 1, none⟩ = some (.slice A L.length c) := HI.out.1.cell 1
      by_cases hlt : k < L.length
      · have eL : decide ((k : Int) < (L.length : Int)) = true := decide_eq_true (by omega)
        obtain ⟨b, off, a1, c1, M, hA, hBk, hck, hG, hv1⟩ := (HX1.out.below HI.out.2).at_ hlt
        rw [hA] at p1
        have hY := HY1.out.below HI.out.2
        obtain ⟨bb, bo, rfl, -, -⟩ := hY.rd (by omega)
        have EM := Lib.hid (show pAt (words L) k = vecs M from words_pAt hv1.out)
        have hkw : k < (words L).length := by rw [HL.out]; exact hlt
        have hall := HOK.out.all hkw
        have hml : 1 ≤ M.length ∧ M.length ≤ 64 := by
          have h := HOK.out.2.2.2.2 k hkw
          have h1 := h.1
          have h2 := h.2.1
          rw [EM.out, vecs_len] at h1 h2
          exact ⟨h1, h2⟩
        have hnn := nearestI_lt (ms := pAt (words L) k) (partAt v k (words L).length) (by rw [EM.out, vecs_len]; exact hml.1)
        have hpe : partAt v k (words L).length = seg v (beg k L.length v.length) (beg (k + 1) L.length v.length) := by unfold partAt; rw [HL.out]
        have ES := Lib.hid (tabK_succ (words L) v k)
        have hbl : beg (k + 1) L.length v.length ≤ v.length := beg_le hn1 (by omega)
        have BM := beg_mono (p := k) (q := k + 1) (n := L.length) (d := v.length) (by omega)
        have BG1 : Hid (∀ (W : World), Calls Tryz.prog 35 #[.int .i64 ((k : Int) + 1), .int .i64 (L.length : Int), .int .i64 (v.length : Int)] W fun e w' => e = .returned (.int .i64 ((beg (k + 1) L.length v.length : Nat) : Int)) ∧ w' = W) := Lib.hid (fun W => by
          have := begins_any (k + 1) L.length v.length hn1 (by omega) (by omega) hd2 W
          rw [show ((k + 1 : Nat) : Int) = (k : Int) + 1 by omega] at this
          exact this.mono fun _ _ h => ⟨h.1, h.2.symm⟩)
        have BG0 : Hid (∀ W, Calls Tryz.prog 35 #[.int .i64 (k : Int), .int .i64 (L.length : Int), .int .i64 (v.length : Int)] W fun e w' => e = .returned (.int .i64 ((beg k L.length v.length : Nat) : Int)) ∧ w' = W) := Lib.hid (fun W => (begins_any k L.length v.length hn1 (by omega) (by omega) hd2 W).mono fun _ _ h => ⟨h.1, h.2.symm⟩)
        have BS := beg_step (p := k) (n := L.length) (d := v.length) hn1 hnd
        rw [hpe] at ES
        obtain ⟨y1, ey1⟩ : ∃ y, beg (k + 1) L.length v.length = y := ⟨_, rfl⟩
        obtain ⟨y0, ey0⟩ : ∃ y, beg k L.length v.length = y := ⟨_, rfl⟩
        rw [HL.out] at hall
        rw [ey1] at BG1 BM BS hbl ES hall
        rw [ey0] at BG0 BM BS ES hall
        rw [EM.out] at ES hall
        have hsl : (seg v y0 y1).length = y1 - y0 := seg_len hbl
        have wk1 : IntKind.i64.wrap ((k : Int) + 1) = (k : Int) + 1 := by rw [IntKind.wrap_i64]; omega
        have hdd := HD.out
        have dn : (d = y0) = False := by simp; omega
        have g1 : (0 : Int) ≤ (k : Int) := by omega
        have g2 : (k : Int) < (L.length : Int) := by omega
        have g3 : (0 : Int) ≤ (y0 : Int) := by omega
        have g4 : (y0 : Int) ≤ (y1 : Int) := by omega
        have g5 : (y1 : Int) ≤ (d : Int) := by omega
        have s1 : ((y1 : Int) - (y0 : Int)).toNat = y1 - y0 := by omega
        have s2 : ((d : Int) - (y0 : Int)).toNat = d - y0 := by omega
        have bw := HI.out.2.size
        have HHY := Lib.hid hY
        have HG := Lib.hid hG
        have HALL := Lib.hid hall
        have HA := Lib.hid hA
        clear hY hG hall hA
        obtain ⟨i0, hi, hz0, hz1, hz2⟩ := info_parts Tryz.info2
        go_wp2
        have C0 : Hid (wr.ownsRow wr.heap.size 2 1 (.slice none 0 0) 0 ((((vecs M).map fun u => far u (seg v y0 y1)).take 0).map (Value.int .i64))) := Lib.hid (own_nil_row _ _ _)
        have C1 : Hid (Below wr.heap.size wr wr) := Lib.hid (Below.refl _ _)
        obtain ⟨wo, ewo⟩ : ∃ wo : World, wo = wr := ⟨_, rfl⟩
        subst ewo
        go_loopw [8, 9] (fun s i w2 => ∃ (q : Nat) (SA : Option Addr) (sc : Nat), q ≤ M.length ∧ i = .int .i64 q ∧ s = .slice SA q sc ∧ Hid (w2.ownsRow wo.heap.size 2 1 (.slice SA q sc) q ((((vecs M).map fun u => far u (seg v y0 y1)).take q).map (Value.int .i64))) ∧ Hid (Below wo.heap.size wo w2)) (fun _ i _ => M.length - (intOf i).toNat)
        case atStart => exact ⟨0, none, 0, by omega, rfl, rfl, C0, C1⟩
        case round =>
          clear C0 C1
          obtain ⟨q, SA, sc, hq, rfl, rfl, HR, HBW⟩ := hrel
          have bwr : Below w1.heap.size w1 wr := HI.out.2.trans (HBW.out.mono bw)
          have BXW := Lib.hid (HI.out.1.below HBW.out HI.out.1.lt)
          have p0' : wr.cell? ⟨bx, 0, none⟩ = some (.int .i64 (L.length : Int)) := BXW.out.cell 0
          have p1' : wr.cell? ⟨bx, 1, none⟩ = some (.slice (some ⟨b, off, none⟩) L.length c) := by have z := BXW.out.cell 1; rw [HA.out] at z; exact z
          have r1 : wr.cell? ⟨b, off + k, none⟩ = some (.slice a1 M.length c1) := (HBW.out.cell (p := ⟨b, off + k, none⟩) hBk).trans hck
          by_cases hqt : q < M.length
          · have eq : decide ((q : Int) < (M.length : Int)) = true := decide_eq_true (by omega)
            obtain ⟨vb, vo, av, cv, u, rfl, hBv, hcv, hrv, huv⟩ := HG.out.rd.at_ hqt
            have r2 : wr.cell? ⟨vb, vo + q, none⟩ = some (.slice av u.length cv) := (HBW.out.cell (p := ⟨vb, vo + q, none⟩) hBv).trans hcv
            have HU := Lib.hid (show (vecs M)[q]? = some u from vecs_at huv.out)
            have hum := List.mem_of_getElem? HU.out
            have hul : u.length = y1 - y0 := HALL.out u hum
            have hbxl := HI.out.1.lt
            have bwo : Below wr.heap.size wr wr := Below.refl _ _
            have HCL : Hid (∀ W, Below wo.heap.size wo W → W.cell? ⟨bx, 0, none⟩ = some (.int .i64 (L.length : Int)) ∧ W.cell? ⟨bx, 1, none⟩ = some (.slice (some ⟨b, off, none⟩) L.length c) ∧ W.cell? ⟨b, off + k, none⟩ = some (.slice (some ⟨vb, vo, none⟩) M.length c1) ∧ W.cell? ⟨vb, vo + q, none⟩ = some (.slice av u.length cv) ∧ Below wo.heap.size wo W) := Lib.hid (fun W h =>
              ⟨(HI.out.1.below h HI.out.1.lt).cell 0, by have z := (HI.out.1.below h HI.out.1.lt).cell 1; rw [HA.out] at z; exact z, (h.cell (p := ⟨b, off + k, none⟩) hBk).trans hck, (h.cell (p := ⟨vb, vo + q, none⟩) hBv).trans hcv, h⟩)
            have HUP : Hid (∀ W, Below wr.heap.size wr W → Below wo.heap.size wo W) := Lib.hid (fun W h => HBW.out.trans (h.mono HBW.out.size))
            have FE : Hid (∀ W, Below wr.heap.size wr W → Calls Tryz.prog 36 #[.slice av u.length cv, .slice (some ⟨bb, bo + y0, none⟩) (y1 - y0) (d - y0)] W fun e w' => e = .returned (.int .i64 (far u (seg v y0 y1))) ∧ Below wr.heap.size wr w') := Lib.hid (fun W h => by
              rw [show y1 - y0 = u.length by omega]
              have hb := HUP.out W h
              refine (refFar_any av (some ⟨bb, bo + y0, none⟩) cv (d - y0) u (seg v y0 y1) (by omega) (by rw [hsl]; omega) W wo.heap.size (hrv.below hb) ((rd_seg HHY.out.rd hbl).below hb) (HG.out.b8 u hum) (fun x hx => HHY.out.b8 x (List.mem_of_mem_drop (List.mem_of_mem_take hx)))).mono ?_
              rintro e w' ⟨h1, nq, rfl⟩
              exact ⟨h1, below_drewN h nq⟩)
            have KB : Hid (∀ W (e : Ending) (val : Int), Below wr.heap.size wr W → (Below wr.heap.size wr W ∧ W.cell? ⟨bx, 0, none⟩ = some (.int .i64 (L.length : Int)) ∧ W.cell? ⟨bx, 1, none⟩ = some (.slice (some ⟨b, off, none⟩) L.length c) ∧ W.cell? ⟨b, off + k, none⟩ = some (.slice (some ⟨vb, vo, none⟩) M.length c1) ∧ W.cell? ⟨vb, vo + q, none⟩ = some (.slice av u.length cv) ∧ Below wo.heap.size wo W)) := Lib.hid (fun W _ _ h => ⟨h, HCL.out W (HUP.out W h)⟩)
            have BG1' := Lib.hid (fun (W : World) (hb : Below wr.heap.size wr W) => ((BG1.out W).mono fun e w' h => (by obtain ⟨r1, rfl⟩ := h; exact ⟨r1, KB.out w' e 0 hb⟩ : e = .returned (.int .i64 (y1 : Int)) ∧ Below wr.heap.size wr w' ∧ w'.cell? ⟨bx, 0, none⟩ = some (.int .i64 (L.length : Int)) ∧ w'.cell? ⟨bx, 1, none⟩ = some (.slice (some ⟨b, off, none⟩) L.length c) ∧ w'.cell? ⟨b, off + k, none⟩ = some (.slice (some ⟨vb, vo, none⟩) M.length c1) ∧ w'.cell? ⟨vb, vo + q, none⟩ = some (.slice av u.length cv) ∧ Below wo.heap.size wo w')))
            have BG0' := Lib.hid (fun (W : World) (hb : Below wr.heap.size wr W) => ((BG0.out W).mono fun e w' h => (by obtain ⟨r1, rfl⟩ := h; exact ⟨r1, KB.out w' e 0 hb⟩ : e = .returned (.int .i64 (y0 : Int)) ∧ Below wr.heap.size wr w' ∧ w'.cell? ⟨bx, 0, none⟩ = some (.int .i64 (L.length : Int)) ∧ w'.cell? ⟨bx, 1, none⟩ = some (.slice (some ⟨b, off, none⟩) L.length c) ∧ w'.cell? ⟨b, off + k, none⟩ = some (.slice (some ⟨vb, vo, none⟩) M.length c1) ∧ w'.cell? ⟨vb, vo + q, none⟩ = some (.slice av u.length cv) ∧ Below wo.heap.size wo w')))
            have FE' := Lib.hid (fun (W : World) (hb : Below wr.heap.size wr W) => ((FE.out W hb).mono fun e w' h => (by obtain ⟨r1, h2⟩ := h; exact ⟨r1, KB.out w' e 0 h2⟩ : e = .returned (.int .i64 (far u (seg v y0 y1))) ∧ Below wr.heap.size wr w' ∧ w'.cell? ⟨bx, 0, none⟩ = some (.int .i64 (L.length : Int)) ∧ w'.cell? ⟨bx, 1, none⟩ = some (.slice (some ⟨b, off, none⟩) L.length c) ∧ w'.cell? ⟨b, off + k, none⟩ = some (.slice (some ⟨vb, vo, none⟩) M.length c1) ∧ w'.cell? ⟨vb, vo + q, none⟩ = some (.slice av u.length cv) ∧ Below wo.heap.size wo w')))
            obtain ⟨F, eF⟩ : ∃ F, far u (seg v y0 y1) = F := ⟨_, rfl⟩
            rw [eF] at FE'
            have HRW : Hid ((((vecs M).map fun u => far u (seg v y0 y1)).take q).map (Value.int .i64) ++ [.int .i64 F] = (((vecs M).map fun u => far u (seg v y0 y1)).take (q + 1)).map (Value.int .i64)) := Lib.hid (by
              rw [List.take_add_one, List.getElem?_map, HU.out]; simp [eF])
            obtain ⟨RW, eRW⟩ : ∃ RW, (((vecs M).map fun u => far u (seg v y0 y1)).take q).map (Value.int .i64) = RW := ⟨_, rfl⟩
            rw [eRW] at HR HRW
            have h1d : Below wr.heap.size wr wr.drew := bwo.drew
            obtain ⟨c0d, c1d, c2d, c3d, c4d⟩ := HCL.out wr.drew (HUP.out _ h1d)
            have hq64 : q ≤ 64 := by omega
            have HUL := Lib.hid hul
            clear FE BG0 BG1 KB eF eRW hul hum huv hrv hcv hck hsl bwo BXW
            go_wp2
            clear r1 r2 p0' p1'
            go_region_held3 (fun w' => w'.cell? ⟨bx, 0, none⟩ = some (.int .i64 (L.length : Int)) ∧ w'.cell? ⟨bx, 1, none⟩ = some (.slice (some ⟨b, off, none⟩) L.length c) ∧ w'.cell? ⟨b, off + k, none⟩ = some (.slice (some ⟨vb, vo, none⟩) M.length c1) ∧ w'.cell? ⟨vb, vo + q, none⟩ = some (.slice av u.length cv) ∧ Below wo.heap.size wo w')
              (first | exact ⟨by with_reducible assumption, by with_reducible assumption, by with_reducible assumption, by with_reducible assumption, by with_reducible assumption⟩ | exact HCL.out _ (HUP.out _ (below_one (by with_reducible assumption) _)))
              (first
                | (go_at_call 35; (with_reducible refine (BG1'.out _ (by with_reducible assumption)).mono ?_); rintro e w2 ⟨rfl, kab, ka0, ka1, ka2, ka3, ka4⟩)
                | (go_at_call 35; (with_reducible refine (BG0'.out _ (by with_reducible assumption)).mono ?_); rintro e w3 ⟨rfl, kcb, kc0, kc1, kc2, kc3, kc4⟩)
                | (go_at_call 36; (with_reducible refine (FE'.out _ (by with_reducible assumption)).mono ?_); rintro e w5 ⟨rfl, b5, ke0, ke1, ke2, ke3, ke4⟩)
                | (refine step_append_lies _ (by rfl) _ _ _ (by rfl) wo.heap.size 2 i0 (.int .i64 0) 1 8 Tryz.underlying80 hi hz0 hz1 hz2 rfl (by omega) (.slice SA q sc) q RW (by rfl) (own_below HR.out (below_one b5 _)) ⟨w5.heap.size, 0, none⟩ 1 1 [.int .i64 F] (by rfl) (by rfl) (World.news_of_block (cs := #[.int .i64 F]) (t := 2) (fr := (0, 0)) (heap_alloc_new w5 _)) (by simp [Value.oneCell']) (by omega) (by unfold maxLen; omega) (by omega) (by have h1 := b5.size; have h2 := HBW.out.size; rw [World.size_alloc]; omega) (w5.heap.size + 1) (by simp) ?_; intro gg gcap w6 hown6 hgrow6 hat6 hlt6
                   have b6 : Below wo.heap.size wo w6 := (HUP.out _ (below_one b5 _)).grown hgrow6 (by have h1 := b5.size; have h2 := HBW.out.size; rw [World.size_alloc]; omega) (fun r hr => (HR.out.lt r hr).1)
                   obtain ⟨kf0, kf1, kf2, kf3, kf4⟩ := HCL.out w6 b6)
                | fail)
            all_goals
              rw [HRW.out] at hown6
              have HR6 := Lib.hid hown6
              have HB6 := Lib.hid b6
              clear hown6 hgrow6 hat6 hlt6 b6 kf0 kf1 kf2 kf3 kf4 c0d c1d c2d c3d c4d h1d
              go_wp2
              go_roundw
              case rel => exact ⟨q + 1, some ⟨gg, 0, none⟩, gcap, by omega, by go_num, rfl, HR6, HB6⟩
              case measure => simp [intOf]; omega
          · obtain rfl : q = M.length := by omega
            have eq : decide ((M.length : Int) < (M.length : Int)) = false := decide_eq_false (by omega)
            obtain ⟨row, erow⟩ : ∃ row, ((vecs M).map fun u => far u (seg v y0 y1)) = row := ⟨_, rfl⟩
            have hrow : row.length = M.length := by rw [← erow, List.length_map, vecs_len]
            have hR := HR.out
            rw [erow, List.take_of_length_le (by omega)] at hR
            have hx1 : TOwn wr w1.heap.size (SA, sc, row) := by unfold TOwn; rw [hrow]; exact own_base hR bw
            have hO2 : OwnT wr w1.heap.size VA vc T := ⟨own_below HO.out.1.1 HBW.out, fun x hx => own_below (HO.out.1.2 x hx) HBW.out⟩
            have ET := Lib.hid (show vecs (T ++ [(SA, sc, row)]) = tabK (words L) v (k + 1) by rw [vecs_snoc, HO.out.2, ES.out, erow])
            have hz := bwr.size
            have htl : T.length ≤ 64 := by have := HTK.out; omega
            have HTV := Lib.hid hx1
            have HROW := Lib.hid hrow
            obtain ⟨i1, hi1, hy0, hy1, hy2⟩ := info_parts Tryz.info80v
            clear hR erow hrow ES HR
            go_wp2_with (at_builtin; refine wpList_append_own _ rfl _ _ 34 rfl w1.heap.size 80 i1 (.slice none 0 0) 1 24 Tryz.underlying34 hi1 hy0 hy1 hy2 rfl (by decide) _ _ _ rfl (hO2.1.alloc _) ⟨wr.heap.size, 0, none⟩ 1 1 [.slice SA M.length sc] rfl rfl (cell_one_new _ _ _) (by simp [Value.oneCell']) (by show T.length + 1 ≤ 9223372036854775807; omega) (by omega) (by simp; omega) ?_; intro v3 w3 hown3 hgrow3 _)
            obtain ⟨A5, c5, rfl, hO5⟩ := hO2.snoc hx1 (by show w3.ownsRow _ _ _ _ _ (_ ++ [.slice SA row.length sc]); rw [HROW.out]; exact hown3) hgrow3
            have hB7 : Below w1.heap.size w1 w3 := (bwr.alloc hz _).grown hgrow3 (by simp; omega) (fun r hr => (hO2.1.lt r hr).1)
            have HI7 := Lib.hid (⟨HW1.out.below hB7 HW1.out.lt, hB7⟩ : Whole w3 bx 24 #[.int .i64 (L.length : Int), .slice A L.length c] ∧ Below w1.heap.size w1 w3)
            have HO7 := Lib.hid (⟨hO5, ET.out⟩ : OwnT w3 w1.heap.size A5 c5 (T ++ [(SA, sc, row)]) ∧ vecs (T ++ [(SA, sc, row)]) = tabK (words L) v (k + 1))
            have HT1 := Lib.hid (show (T ++ [(SA, sc, row)]).length = k + 1 by rw [List.length_append, HTK.out]; rfl)
            clear hown3 hgrow3 hO5 ET hx1 hO2 hB7
            go_roundw
            case rel => exact ⟨k + 1, A5, c5, T ++ [(SA, sc, row)], by omega, by go_num, rfl, HT1.out, HO7, HI7⟩
            case measure => simp [intOf]; omega
      · obtain rfl : k = L.length := by omega
        have eL : decide ((L.length : Int) < (L.length : Int)) = false := decide_eq_false (by omega)
        have ED : Hid (tabK (words L) v L.length = tabL (words L) v) := Lib.hid (by unfold tabK tabL; rw [HL.out])
        have HBE := Lib.hid (HB1.out.trans (HI.out.2.mono HB1.out.size))
        go_wp2
        go_ret2
        exact ⟨VA, vc, T, rfl, ⟨own_base HO.out.1.1 HB1.out.size, fun x hx => own_base (HO.out.1.2 x hx) HB1.out.size⟩, HO.out.2.trans ED.out, HBE.out⟩
end Go.Proofs.YthbimjkcpmffcaaGreat
