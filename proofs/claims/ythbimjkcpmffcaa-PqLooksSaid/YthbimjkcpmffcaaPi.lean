/- The walk of the document's Decode (layer 8). -/
import Derived.Test.YthbimjkcpmffcaaPh
import Derived.Laws.AppendOwn
import Derived.Maps.AppendAt
import Derived.Deep.RegionHeld3
import Derived.Deep.RegionWith
import Derived.Deep.RegionLaw
import Derived.Deep.QuietTactic
import Derived.BigQuiet
namespace Go.Proofs.Ythbimjkcpmffcaa
open Go.RowKit
set_option linter.unusedVariables false
theorem errE_true : errE true = 0 := rfl
theorem errE_false : errE false = 1 := rfl
/-- An answer that is a list of numbers of kind k, and an errno. -/
def NAns (w : World) (k : IntKind) (t : TypeId) (xs : List Int) (E : Int) (e : Ending) (w' : World) : Prop :=
  ∃ A c, e = .returned (.tuple #[.slice A xs.length c, .int .i64 E]) ∧ w'.ownsRow w.heap.size t 1 (.slice A xs.length c) xs.length (xs.map (Value.int k)) ∧ Below w.heap.size w w'
theorem NAns.nil (w : World) (k : IntKind) (t : TypeId) (E : Int) {w' : World} (h : Below w.heap.size w w') : NAns w k t [] E (.returned (.tuple #[.slice none 0 0, .int .i64 E])) w' := ⟨none, 0, rfl, own_nil_row _ _ _, h⟩
/-- A code as an argument. -/
structure CArg (w : World) (B : Option Addr) (v : List Int) : Prop where
  rd : Rd .u8 w w.heap.size B v
  len : v.length ≤ 1048576
  u8 : ∀ x ∈ v, 0 ≤ x ∧ x ≤ 255
theorem CArg.below {w w' : World} {B : Option Addr} {v : List Int} (h : CArg w B v) (hb : Below w.heap.size w w') : CArg w' B v := ⟨(h.rd.below hb).more hb.size, h.len, h.u8⟩
theorem CArg.at_ {w : World} {B : Option Addr} {v : List Int} (h : CArg w B v) {i : Nat} (hi : i < v.length) : ∃ b off x, B = some ⟨b, off, none⟩ ∧ b < w.heap.size ∧ w.cell? ⟨b, off + i, none⟩ = some (.int .u8 ((x : Nat) : Int)) ∧ x ≤ 255 ∧ Hid (cAt v i = x) := by
  obtain ⟨b, off, y, h1, h2, h3, h4⟩ := h.rd.at_ hi
  have hy : 0 ≤ y ∧ y ≤ 255 := by
    rw [← h4.out, List.getElem?_eq_getElem hi]; exact h.u8 _ (List.getElem_mem _)
  refine ⟨b, off, y.toNat, h1, h2, by rw [h3, Int.toNat_of_nonneg hy.1], by omega, ?_⟩
  unfold cAt
  rw [h4.out]; rfl
/-- The first k words that a code names, one behind the other. -/
def decK (ps : List (List (List Int))) (code : List Int) (k : Nat) : List Int := ((List.range k).map (wordAt ps code)).flatten
theorem decK_succ (ps : List (List (List Int))) (code : List Int) (k : Nat) : decK ps code (k + 1) = decK ps code k ++ wordAt ps code k := by
  unfold decK
  rw [List.range_succ, List.map_append, List.flatten_append]; simp
theorem decK_len {ps : List (List (List Int))} {d : Nat} {code : List Int} (h : BookOk ps d) {k : Nat} (hk : k ≤ ps.length) (hc : ∀ p, p < k → cAt code p < (pAt ps p).length) : (decK ps code k).length ≤ 64 := by
  have e : ∀ p, p < k → (wordAt ps code p).length = beg (p + 1) ps.length d - beg p ps.length d := fun p hp => h.word (by omega) (hc p hp)
  have : ∀ q, q ≤ k → (decK ps code q).length = beg q ps.length d := by
    intro q
    induction q with
    | zero => intro _; unfold decK; simp [beg_zero]
    | succ q ih =>
      intro hq
      have hm := beg_mono (p := q) (q := q + 1) (n := ps.length) (d := d) (by omega)
      rw [decK_succ, List.length_append, ih (by omega), e q (by omega)]; omega
  rw [this k (Nat.le_refl _)]
  have := beg_le (p := k) (d := d) h.2.2.1 hk
  have := h.2.1
  omega
theorem decB_len {P : Int} {ps : List (List (List Int))} {code : List Int} (h : ¬ code.length = ps.length) : decB P ps code = false := by
  unfold decB
  rw [decide_eq_false (fun k : codeOk ps code => h k.1), Bool.and_false]
theorem decB_at {P : Int} {ps : List (List (List Int))} {code : List Int} {p : Nat} (hp : p < ps.length) (h : ¬ cAt code p < (pAt ps p).length) : decB P ps code = false := by
  unfold decB
  rw [decide_eq_false (fun k : codeOk ps code => h (k.2 p hp)), Bool.and_false]
theorem decB_yes {P : Int} {ps : List (List (List Int))} {code : List Int} (h1 : bookB P ps (dimS ps) = true) (h2 : code.length = ps.length) (h3 : ∀ p, p < ps.length → cAt code p < (pAt ps p).length) : decB P ps code = true := by
  unfold decB
  rw [h1, decide_eq_true (p := codeOk ps code) ⟨h2, h3⟩]
  rfl
/-- 'append' of a slice of integers to a row of the call's own: as a step of a drawn region. -/
theorem step_app {P : Program} {ops : Array Oper} {o : Oper} {a : Act} {w : World} {K : Act → World → Prop} {Q : Exit → Act → World → Prop} {E : Prop} (hgd : o.guard = none) (s x : Operand) (t : TypeId)
    (ho : o.op = .call { callee := .builtin .append, args := #[s, x], argTypes := #[t, t] })
    (base : Nat) (e : TypeId) (i : TypeInfo) (z : Value) (bytes : Nat) (ht : P.underlying t = some (.slice e)) (hi : P.info? e = some i) (hz : i.zero = some z)
    (hsize : i.size = 1) (hby : i.bytes = bytes) (hzs : z.cells.size = 1) (k : IntKind)
    (v : Value) (n : Nat) (xs : List Int) (hs : a.eval s = v) (hown : w.ownsRow base e 1 v n (xs.map (Value.int k)))
    (S : Option Addr) (m c : Nat) (ys : List Int) (B : Nat) (hx : a.eval x = .slice S m c) (hm : m = ys.length) (hrd : Rd k w B S ys) (hnil : S = none → c = 0)
    (h63 : n + m ≤ maxLen) (hbytes : (n + m) * bytes ≤ 140737488355328) (hbase : base ≤ w.heap.size)
    (h : ∀ v' w', w'.ownsRow base e 1 v' (n + m) ((xs ++ ys).map (Value.int k)) → w.grownBy w' v.ownBlock → K (a.put o.dst v') w') :
    if Region.wanted o (yielded ops a.tmps) = true then Oper.wp P o a w K Q else E := by
  have hw : Region.wanted o (yielded ops a.tmps) = true := by simp [Region.wanted, hgd]
  rw [if_pos hw]
  subst hm
  rcases S with _ | ad
  · obtain rfl := rd_none hrd
    obtain rfl := hnil rfl
    have hrun := run_append_owned_none (P := P) (w := w) base t o.type e i 1 ht hi v n _ hown
    unfold Oper.wp
    simp [execOp, ho, resolve, invoke, builtin, hs, hx, hrun, Result.andThen]
    exact h v w (by simpa using hown) (World.grownBy.refl _ _)
  · obtain ⟨v', w', hr, h2, h3, _, _⟩ := run_append_own_at (P := P) w base t o.type e i z 1 bytes ht hi hz hsize hby hzs (by omega) v n _ hown ad ys.length c (ys.map (Value.int k)) (by simp) (rd_cells hrd) (ints_one _ _) h63 hbytes hbase
    unfold Oper.wp
    simp [execOp, ho, resolve, invoke, builtin, hs, hx, hr, Result.andThen]
    exact h v' w' (by rw [List.map_append]; exact h2) h3
set_option maxRecDepth 100000 in
set_option maxHeartbeats 4000000 in
theorem rDecode_any (P : Int) (A : Option Addr) (c : Nat) (L : List Pc) (B : Option Addr) (d : Nat) (code : List Int) (w : World) (hx : PArg w A L) (hy : CArg w B code) :
    Calls Try.prog 16 #[.agg #[.int .i64 P, .slice A L.length c], .slice B code.length d] w (NAns w .i8 79 (decA P (words L) code) (errE (decB P (words L) code))) := by
  have W0 := Whole.new w 24 #[.int .i64 P, .slice A L.length c]
  have B0 : Below w.heap.size w (w.alloc (.cells #[.int .i64 P, .slice A L.length c] 24)) := below_one (Below.refl _ _) _
  have hX1 := hx.below B0
  have DM : Hid (∀ W, Below (w.alloc (.cells #[.int .i64 P, .slice A L.length c] 24)).heap.size (w.alloc (.cells #[.int .i64 P, .slice A L.length c] 24)) W → Calls Try.prog 41 #[.agg #[.int .i64 P, .slice A L.length c]] W fun e w' => e = .returned (.int .i64 ((dimS (words L) : Nat) : Int)) ∧ w'.cell? ⟨w.heap.size, 0, none⟩ = some (.int .i64 P) ∧ w'.cell? ⟨w.heap.size, 1, none⟩ = some (.slice A L.length c) ∧ Below (w.alloc (.cells #[.int .i64 P, .slice A L.length c] 24)).heap.size (w.alloc (.cells #[.int .i64 P, .slice A L.length c] 24)) w') := Lib.hid (fun W hb => (rDim_any P A c L W (hX1.below hb)).mono fun e w' h => by
    have b2 := hb.trans (h.2.mono hb.size)
    exact ⟨h.1, (W0.below b2 W0.lt).cell 0, (W0.below b2 W0.lt).cell 1, b2⟩)
  have CK : Hid (∀ W, Below (w.alloc (.cells #[.int .i64 P, .slice A L.length c] 24)).heap.size (w.alloc (.cells #[.int .i64 P, .slice A L.length c] 24)) W → Calls Try.prog 40 #[.agg #[.int .i64 P, .slice A L.length c], .int .i64 ((dimS (words L) : Nat) : Int)] W fun e w' => e = .returned (.bool (bookB P (words L) ((dimS (words L) : Nat) : Int))) ∧ w'.cell? ⟨w.heap.size, 0, none⟩ = some (.int .i64 P) ∧ w'.cell? ⟨w.heap.size, 1, none⟩ = some (.slice A L.length c) ∧ Below (w.alloc (.cells #[.int .i64 P, .slice A L.length c] 24)).heap.size (w.alloc (.cells #[.int .i64 P, .slice A L.length c] 24)) w') := Lib.hid (fun W hb => (rCheck_any P A c L _ W (hX1.below hb)).mono fun e w' h => by
    have b2 := hb.trans (h.2.mono hb.size)
    exact ⟨h.1, (W0.below b2 W0.lt).cell 0, (W0.below b2 W0.lt).cell 1, b2⟩)
  have HX := Lib.hid hX1
  have HY := Lib.hid (hy.below B0)
  have hlen := hx.sm.len
  have hcl := hy.len
  have HL := Lib.hid (words_len L)
  have HW0 := Lib.hid W0
  have HB0 := Lib.hid B0
  clear W0 B0 hx hy hX1
  cases hb : bookB P (words L) ((dimS (words L) : Nat) : Int) with
  | false =>
    rw [hb] at CK
    have hdb : decB P (words L) code = false := by unfold decB; rw [hb]; rfl
    have hda : decA P (words L) code = [] := by unfold decA; rw [hdb]; rfl
    rw [hda, hdb, errE_false]
    clear hb hdb hda
    go_enter Try.func16, Try.ntmps16
    go_wp2_with fail
    obtain ⟨bx, ebx⟩ : ∃ bx, w.heap.size = bx := ⟨_, rfl⟩
    obtain ⟨w1, ew1⟩ : ∃ w1, w.alloc (.cells #[.int .i64 P, .slice A L.length c] 24) = w1 := ⟨_, rfl⟩
    rw [ew1] at HX HY HB0 HW0 DM CK
    rw [ebx] at HW0 DM CK
    rw [ew1, ebx]
    have k0 : w1.drew.cell? ⟨bx, 0, none⟩ = some (.int .i64 P) := HW0.out.cell 0
    have k1 : w1.drew.cell? ⟨bx, 1, none⟩ = some (.slice A L.length c) := HW0.out.cell 1
    have kb : Below w1.heap.size w1 w1.drew := (Below.refl _ _).drew
    clear ebx ew1
    first
      | (go_region_law
      (first
        | (go_simp; go_at_call 41; (with_reducible refine (DM.out _ (by first | with_reducible assumption | exact Below.refl _ _)).mono ?_); rintro e w2 ⟨rfl, ka0, ka1, kab⟩)
        | (go_simp; go_at_call 40; (with_reducible refine (CK.out _ (by first | with_reducible assumption | exact Below.refl _ _)).mono ?_); rintro e w3 ⟨rfl, kc0, kc1, kcb⟩)))
      | fail
    all_goals
      have HK := Lib.hid (⟨kc0, kc1, kcb⟩ : _ ∧ _ ∧ _)
      have HB3 := Lib.hid (HB0.out.trans (kcb.mono HB0.out.size))
      clear k0 k1 kb ka0 ka1 kab kc0 kc1 kcb DM CK
      go_wp2
      go_ret2
      exact NAns.nil _ _ _ _ HB3.out
  | true =>
    obtain ⟨hP, hok⟩ := bookB_yes hb
    have hPL : P = (L.length : Int) := by rw [← hP, HL.out]
    subst hPL
    by_cases hcl2 : code.length = L.length
    · have e1 : ((code.length : Int) != (L.length : Int)) = false := by simp; omega
      rw [hb] at CK
      obtain ⟨i0, hi, hz0, hz1, hz2⟩ := info_parts Try.info79
      have HOK := Lib.hid hok
      have HBO := Lib.hid hb
      have HC2 := Lib.hid hcl2
      clear hb hok hP hcl2
      go_enter Try.func16, Try.ntmps16
      go_wp2_with fail
      obtain ⟨bx, ebx⟩ : ∃ bx, w.heap.size = bx := ⟨_, rfl⟩
      obtain ⟨w1, ew1⟩ : ∃ w1, w.alloc (.cells #[.int .i64 (L.length : Int), .slice A L.length c] 24) = w1 := ⟨_, rfl⟩
      rw [ew1] at HX HY HB0 HW0 DM CK
      rw [ebx] at HW0 DM CK
      rw [ew1, ebx]
      have k0 : w1.drew.cell? ⟨bx, 0, none⟩ = some (.int .i64 (L.length : Int)) := HW0.out.cell 0
      have k1 : w1.drew.cell? ⟨bx, 1, none⟩ = some (.slice A L.length c) := HW0.out.cell 1
      have kb : Below w1.heap.size w1 w1.drew := (Below.refl _ _).drew
      have HEB := Lib.hid ebx
      clear ebx ew1
      go_region_held3 (fun w' => w'.cell? ⟨bx, 0, none⟩ = some (.int .i64 (L.length : Int)) ∧ w'.cell? ⟨bx, 1, none⟩ = some (.slice A L.length c) ∧ Below w1.heap.size w1 w')
        (first | exact ⟨by with_reducible assumption, by with_reducible assumption, by with_reducible assumption⟩)
        (first
          | (go_at_call 41; (with_reducible refine (DM.out _ (by with_reducible assumption)).mono ?_); rintro e w2 ⟨rfl, ka0, ka1, kab⟩)
          | (go_at_call 40; (with_reducible refine (CK.out _ (by with_reducible assumption)).mono ?_); rintro e w3 ⟨rfl, kc0, kc1, kcb⟩))
      all_goals
        have HK : Hid (Whole w3 bx 24 #[.int .i64 (L.length : Int), .slice A L.length c] ∧ Below w1.heap.size w1 w3) := Lib.hid ⟨HW0.out.below kcb HW0.out.lt, kcb⟩
        have HB3 := Lib.hid (HB0.out.trans (kcb.mono HB0.out.size))
        clear k0 k1 kb ka0 ka1 kab kc0 kc1 kcb DM CK
        have A0 : Hid (w3.ownsRow w1.heap.size 79 1 (.slice none 0 0) 0 ((decK (words L) code 0).map (Value.int .i8))) := Lib.hid (own_nil_row _ _ _)
        go_wp2
        go_loopw [6, 7] (fun v i wr => ∃ (k : Nat) (VA : Option Addr) (vc : Nat), k ≤ L.length ∧ i = .int .i64 k ∧ v = .slice VA (decK (words L) code k).length vc ∧ Hid (wr.ownsRow w1.heap.size 79 1 (.slice VA (decK (words L) code k).length vc) (decK (words L) code k).length ((decK (words L) code k).map (Value.int .i8))) ∧ Hid (∀ q, q < k → cAt code q < (pAt (words L) q).length) ∧ Hid (Whole wr bx 24 #[.int .i64 (L.length : Int), .slice A L.length c] ∧ Below w1.heap.size w1 wr)) (fun _ i _ => L.length - (intOf i).toNat)
        case atStart => exact ⟨0, none, 0, by omega, rfl, rfl, A0, (fun q hq => absurd hq (Nat.not_lt_zero _) : ∀ q, q < 0 → cAt code q < (pAt (words L) q).length), HK⟩
        case round =>
          clear A0 HK
          obtain ⟨k, VA, vc, hk, rfl, rfl, HO, HQ, HI⟩ := hrel
          have p0 : wr.cell? ⟨bx, 0, none⟩ = some (.int .i64 (L.length : Int)) := HI.out.1.cell 0
          have p1 : wr.cell? ⟨bx, 1, none⟩ = some (.slice A L.length c) := HI.out.1.cell 1
          have hDl := Lib.hid (decK_len HOK.out (k := k) (by rw [HL.out]; exact hk) HQ.out)
          by_cases hlt : k < L.length
          · have eL : decide ((k : Int) < (L.length : Int)) = true := decide_eq_true (by omega)
            have HX' := HX.out.below HI.out.2
            obtain ⟨b, off, a1, c1, M, hA, hBk, hck, hG, hv1⟩ := HX'.at_ hlt
            obtain ⟨cb, co, x, rfl, hBc, hcc, hx255, hxv⟩ := (HY.out.below HI.out.2).at_ (i := k) (by rw [HC2.out]; exact hlt)
            rw [hA] at p1
            have EM := Lib.hid (show pAt (words L) k = vecs M from words_pAt hv1.out)
            have hml := hG.len
            have g1 : (0 : Int) ≤ (k : Int) := by omega
            have g2 : (k : Int) < (L.length : Int) := by omega
            have g3 : (k : Int) < (code.length : Int) := by rw [HC2.out]; omega
            obtain ⟨Dl, eDl⟩ : ∃ Dl, (decK (words L) code k).length = Dl := ⟨_, rfl⟩
            rw [eDl] at hDl HO ⊢
            by_cases hge : M.length ≤ x
            · have f1 : decide ((M.length : Int) ≤ (x : Int)) = true := decide_eq_true (by omega)
              have E : Hid (decB (L.length : Int) (words L) code = false) := Lib.hid (decB_at (p := k) (by rw [HL.out]; exact hlt) (by rw [EM.out, vecs_len, hxv.out]; omega))
              have HBE := Lib.hid (HB0.out.trans (HI.out.2.mono HB0.out.size))
              clear HX' hG hv1 hxv EM eDl hDl HO HQ
              go_wp2
              go_quiet (fail)
              go_wp2
              go_ret2
              rw [show decA (L.length : Int) (words L) code = [] by unfold decA; rw [E.out]; rfl, E.out]
              exact NAns.nil _ _ _ _ (below_drewN HBE.out _)
            · have f1 : decide ((M.length : Int) ≤ (x : Int)) = false := decide_eq_false (by omega)
              obtain ⟨bv, ov, a2, c2, v, hA2, hBv, hcv, hrv, hvv⟩ := hG.rd.at_ (i := x) (by omega)
              have EW : Hid (wordAt (words L) code k = v) := Lib.hid (by unfold wordAt; rw [EM.out, hxv.out]; exact vecs_vAt hvv.out)
              have hvl : 1 ≤ v.length ∧ v.length ≤ 64 := by
                have q1 := HOK.out.word (p := k) (w := x) (by rw [HL.out]; exact hlt) (by rw [EM.out, vecs_len]; omega)
                rw [EM.out, vecs_vAt hvv.out] at q1
                have q2 := HOK.out.part (p := k) (by rw [HL.out]; exact hlt)
                omega
              obtain ⟨bb, bo, hA3, -, -⟩ := hrv (by omega)
              subst hA3
              have HN : Hid (∀ q, q < k + 1 → cAt code q < (pAt (words L) q).length) := Lib.hid (fun q hq => by
                rcases Nat.lt_or_ge q k with h | h
                · exact HQ.out q h
                · obtain rfl : q = k := by omega
                  rw [EM.out, vecs_len, hxv.out]; omega)
              have ED : Hid (decK (words L) code (k + 1) = decK (words L) code k ++ v) := Lib.hid (by rw [decK_succ, EW.out])
              have EL : Hid ((decK (words L) code (k + 1)).length = Dl + v.length) := Lib.hid (by rw [ED.out, List.length_append, eDl])
              have hD2 := decK_len HOK.out (k := k + 1) (by rw [HL.out]; omega) HN.out
              rw [EL.out] at hD2
              have HRV := Lib.hid hrv
              have x1 : (0 : Int) ≤ (x : Int) := by omega
              have x2 : (x : Int) < (M.length : Int) := by omega
              rw [hA2] at hck
              have bxw := HI.out.2.size
              have HDL := Lib.hid eDl
              clear HX' hG hv1 hxv EM eDl hDl HQ hrv hvv EW hA hA2
              go_wp2
              go_quiet (fail)
              go_wp2
              go_region_law (refine step_app (by rfl) (.tmp 38) (.tmp 49) 30 (by rfl) w1.heap.size 79 i0 (.int .i8 0) 1 Try.underlying30 hi hz0 hz1 hz2 (by rfl) .i8 (.slice VA Dl vc) Dl (decK (words L) code k) (by rfl) (own_below HO.out (below_drewN (Below.refl _ wr) _)) (some ⟨bb, bo, none⟩) v.length c2 v wr.heap.size (by rfl) rfl (HRV.out.below (below_drewN (Below.refl _ wr) _)) (fun h => by cases h) (by unfold maxLen; omega) (by omega) bxw ?_; intro v4 w4 hown4 hg4)
              all_goals
                have b4 : Below w1.heap.size w1 w4 := (HI.out.2.trans ((below_drewN (Below.refl _ wr) _).mono HI.out.2.size)).grown hg4 HI.out.2.size (fun j hj => (HO.out.lt j hj).1)
                have HI4 := Lib.hid (⟨HW0.out.below b4 HW0.out.lt, b4⟩ : Whole w4 bx 24 #[.int .i64 (L.length : Int), .slice A L.length c] ∧ Below w1.heap.size w1 w4)
                obtain ⟨V4, m4, c4, rfl⟩ := own_form hown4
                obtain rfl := own_len hown4
                have HO4 : Hid (w4.ownsRow w1.heap.size 79 1 (.slice V4 (decK (words L) code (k + 1)).length c4) (decK (words L) code (k + 1)).length ((decK (words L) code (k + 1)).map (Value.int .i8))) := Lib.hid (by rw [EL.out, ED.out]; exact hown4)
                clear hown4 hg4 b4 HO
                go_wp2
                go_roundw
                case rel => exact ⟨k + 1, V4, c4, by omega, by go_num, by rw [EL.out], HO4, HN, HI4⟩
                case measure => simp [intOf]; omega
          · obtain rfl : k = L.length := by omega
            have eL : decide ((L.length : Int) < (L.length : Int)) = false := decide_eq_false (by omega)
            have E : Hid (decB (L.length : Int) (words L) code = true) := Lib.hid (decB_yes HBO.out (by rw [HL.out]; exact HC2.out) (by rw [HL.out]; exact HQ.out))
            have ED : Hid (decK (words L) code L.length = decL (words L) code) := Lib.hid (by unfold decK decL; rw [HL.out])
            have HBE := Lib.hid (HB0.out.trans (HI.out.2.mono HB0.out.size))
            clear HQ hDl
            go_wp2
            go_ret2
            rw [show decA (L.length : Int) (words L) code = decL (words L) code by unfold decA; rw [E.out]; rfl, E.out, ← ED.out]
            exact ⟨VA, vc, rfl, own_base HO.out HB0.out.size, HBE.out⟩
    · have e1 : ((code.length : Int) != (L.length : Int)) = true := by simp; omega
      have hdb : decB (L.length : Int) (words L) code = false := decB_len (by rw [HL.out]; exact hcl2)
      have hda : decA (L.length : Int) (words L) code = [] := by unfold decA; rw [hdb]; rfl
      rw [hb] at CK
      rw [hda, hdb, errE_false]
      clear hb hdb hda hok hP
      go_enter Try.func16, Try.ntmps16
      go_wp2_with fail
      obtain ⟨bx, ebx⟩ : ∃ bx, w.heap.size = bx := ⟨_, rfl⟩
      obtain ⟨w1, ew1⟩ : ∃ w1, w.alloc (.cells #[.int .i64 (L.length : Int), .slice A L.length c] 24) = w1 := ⟨_, rfl⟩
      rw [ew1] at HX HY HB0 HW0 DM CK
      rw [ebx] at HW0 DM CK
      rw [ew1, ebx]
      have k0 : w1.drew.cell? ⟨bx, 0, none⟩ = some (.int .i64 (L.length : Int)) := HW0.out.cell 0
      have k1 : w1.drew.cell? ⟨bx, 1, none⟩ = some (.slice A L.length c) := HW0.out.cell 1
      have kb : Below w1.heap.size w1 w1.drew := (Below.refl _ _).drew
      clear ebx ew1
      go_region_held3 (fun w' => w'.cell? ⟨bx, 0, none⟩ = some (.int .i64 (L.length : Int)) ∧ w'.cell? ⟨bx, 1, none⟩ = some (.slice A L.length c) ∧ Below w1.heap.size w1 w')
        (first | exact ⟨by with_reducible assumption, by with_reducible assumption, by with_reducible assumption⟩)
        (first
          | (go_at_call 41; (with_reducible refine (DM.out _ (by with_reducible assumption)).mono ?_); rintro e w2 ⟨rfl, ka0, ka1, kab⟩)
          | (go_at_call 40; (with_reducible refine (CK.out _ (by with_reducible assumption)).mono ?_); rintro e w3 ⟨rfl, kc0, kc1, kcb⟩))
      all_goals
        have HK := Lib.hid (⟨kc0, kc1, kcb⟩ : _ ∧ _ ∧ _)
        have HB3 := Lib.hid (HB0.out.trans (kcb.mono HB0.out.size))
        clear k0 k1 kb ka0 ka1 kab kc0 kc1 kcb DM CK
        go_wp2
        go_ret2
        exact NAns.nil _ _ _ _ HB3.out
end Go.Proofs.Ythbimjkcpmffcaa
