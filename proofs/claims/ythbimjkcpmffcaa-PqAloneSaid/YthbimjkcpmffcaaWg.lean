/- Several texts in one. -/
import Derived.Test.YthbimjkcpmffcaaPk
import Derived.Laws.OwnMore
import Derived.Test.YthbimjkcpmffcaaOw
import Derived.Lib.AppendZeros
import Derived.Laws.AppendOwn
import Derived.Test.YthbimjkcpmffcaaWd
/- Package pq: what the bytes of a code name of lists of numbers; Look. -/
namespace Go.Proofs.Ythbimjkcpmffcaa
open Go.RowKit
set_option linter.unusedVariables false
/-- A row of the call's own, of n places, of which the first ones are filled. -/
structure FilZ (w : World) (base g n : Nat) (e : TypeId) (z : Value) (T : List Value) : Prop where
  row : w.ownsRow base e 1 (.slice (some ⟨g, 0, none⟩) n n) n (T ++ List.replicate (n - T.length) z)
  len : T.length ≤ n
theorem madeZ (z : Value) (n : Nat) : (madeCells #[z] (n * 1)).toList = List.replicate n z := by
  unfold madeCells
  rw [Nat.mul_one]
  refine List.ext_getElem (by simp) (fun i h1 h2 => ?_)
  simp [Nat.mod_one]
theorem FilZ.made {w : World} {base g n : Nat} {e : TypeId} {z : Value} (h : w.ownsRow base e 1 (.slice (some ⟨g, 0, none⟩) n n) n (madeCells #[z] (n * 1)).toList) : FilZ w base g n e z [] :=
  ⟨by rw [madeZ] at h; simpa using h, by simp⟩
theorem FilZ.below {w w' : World} {base g n : Nat} {e : TypeId} {z : Value} {T : List Value} (h : FilZ w base g n e z T) (hb : Below w.heap.size w w') : FilZ w' base g n e z T := ⟨own_below h.row hb, h.len⟩
theorem FilZ.cell {w : World} {base g n : Nat} {e : TypeId} {z : Value} {T : List Value} (h : FilZ w base g n e z T) (hk : T.length < n) : w.cell? ⟨g, T.length, none⟩ = some z := by
  rw [h.row.cellAt T.length (by simpa using hk), List.getElem?_append_right (Nat.le_refl _), Nat.sub_self, List.getElem?_replicate, if_pos (by omega)]
theorem FilZ.put {w : World} {base g n : Nat} {e : TypeId} {z : Value} {T : List Value} (h : FilZ w base g n e z T) (hk : T.length < n) (v : Value) : FilZ (w.setCell ⟨g, T.length, none⟩ v) base g n e z (T ++ [v]) := by
  have h1 := (h.row.stored T.length v).1
  have e1 : (T ++ List.replicate (n - T.length) z).set T.length v = (T ++ [v]) ++ List.replicate (n - (T ++ [v]).length) z := by
    rw [List.set_append_right _ _ (Nat.le_refl _), Nat.sub_self, show n - T.length = (n - (T ++ [v]).length) + 1 by simp; omega, List.replicate_succ, List.set_cons_zero, List.append_assoc]
    rfl
  rw [e1] at h1
  exact ⟨h1, by simp; omega⟩
theorem FilZ.done {w : World} {base g n : Nat} {e : TypeId} {z : Value} {T : List Value} (h : FilZ w base g n e z T) (hk : T.length = n) : w.ownsRow base e 1 (.slice (some ⟨g, 0, none⟩) n n) n T := by
  have := h.row
  rw [hk, Nat.sub_self] at this
  simpa using this
theorem FilZ.ge {w : World} {base g n : Nat} {e : TypeId} {z : Value} {T : List Value} (h : FilZ w base g n e z T) : base ≤ g ∧ g < w.heap.size := h.row.lt g rfl
theorem FilZ.frozen {w : World} {base g n : Nat} {e : TypeId} {z : Value} {T : List Value} (h : FilZ w base g n e z T) (k : Nat) : w.frozen? ⟨g, k, none⟩ = false := by
  obtain ⟨h1, h2 | ⟨g', cap, cur, hv, _, hg, _⟩⟩ := h.row
  · simp at h2
  · injection hv with q1
    injection q1 with q1
    injection q1 with q1
    subst q1
    exact (show Whole w g e cur from hg).frozen k
def valK (t : List (List Int)) (code : List Int) (k : Nat) : List Int := (List.range k).map fun p => (tAt t p)[cAt code p]?.getD 0
theorem valK_len (t : List (List Int)) (code : List Int) (k : Nat) : (valK t code k).length = k := by simp [valK]
theorem valK_succ (t : List (List Int)) (code : List Int) (k : Nat) : valK t code (k + 1) = valK t code k ++ [(tAt t k)[cAt code k]?.getD 0] := by simp [valK, List.range_succ]
theorem valK_at {t : List (List Int)} {code : List Int} {n k : Nat} (h : k < n) : (valK t code n)[k]? = some ((tAt t k)[cAt code k]?.getD 0) := by simp [valK, h]
theorem info64q : (Try.prog.info? 2).map (fun i => (i.zero, i.size, i.bytes)) = some (some (.int .i64 0), 1, 8) := by kernel_rfl
theorem below_of_grown0 {w w' : World} (h : w.grownBy w' none) : Below w.heap.size w w' := ⟨h.os, h.tape, h.output, h.size, fun k hk => h.block k hk (by simp)⟩
set_option maxRecDepth 100000 in
set_option maxHeartbeats 1000000 in
theorem named64_any (A : Option Addr) (c : Nat) (T : List Vc) (B : Option Addr) (d : Nat) (code : List Int) (w : World) (hx : TArg w A T) (hy : CArg w B code) :
    Calls Try.prog 84 #[.slice A T.length c, .slice B code.length d] w fun e w' => Below w.heap.size w w' ∧
      ((lookB (vecs T) code = false ∧ e = .returned (.tuple #[.slice none 0 0, .bool false])) ∨
       (lookB (vecs T) code = true ∧ ∃ g, e = .returned (.tuple #[.slice (some ⟨g, 0, none⟩) T.length T.length, .bool true]) ∧ w'.ownsRow w.heap.size 2 1 (.slice (some ⟨g, 0, none⟩) T.length T.length) T.length ((valK (vecs T) code T.length).map (Value.int .i64)))) := by
  have HX := Lib.hid hx
  have HY := Lib.hid hy
  have HL := Lib.hid (vecs_len T)
  have hlen := hx.len
  clear hx hy
  by_cases hne : code.length = T.length
  · have e1 : ((code.length : Int) == (T.length : Int)) = true := by simp; omega
    have HC := Lib.hid hne
    clear hne
    obtain ⟨i0, hi, hz0, hz1, hz2⟩ := info_parts info64q
    have HLN := Lib.hid hlen
    go_enter Try.func84, Try.ntmps84
    go_wp2_with (at_make; refine wpList_make_full _ rfl _ _ 57 rfl w.heap.size 2 i0 (.int .i64 0) 1 Try.underlying57 hi hz0 hz1 _ _ _ _ T.length rfl rfl rfl rfl (by rw [hz2]; have := HLN.out; omega) (by have := HLN.out; unfold maxLen; omega) (Nat.le_refl _) ?_; intro w2 hown hgrow)
    have HF := Lib.hid (FilZ.made hown)
    have HB2 := Lib.hid (below_of_grown0 hgrow)
    clear hown hgrow hi hz0 hz1 hz2
    obtain ⟨g, eg⟩ : ∃ g, w.heap.size = g := ⟨_, rfl⟩
    rw [eg] at HF HB2 ⊢
    have HG := Lib.hid eg
    clear eg
    go_loopw [20] (fun i wr => ∃ k : Nat, k ≤ T.length ∧ i = .int .i64 k ∧ Hid (FilZ wr g g T.length 2 (.int .i64 0) ((valK (vecs T) code k).map (Value.int .i64))) ∧ Hid (Below g w wr) ∧ Hid (∀ q, q < k → cAt code q < (tAt (vecs T) q).length)) (fun i _ => T.length - (intOf i).toNat)
    case atStart => exact ⟨0, by omega, rfl, HF, HB2, (fun q hq => absurd hq (Nat.not_lt_zero _) : ∀ q, q < 0 → cAt code q < (tAt (vecs T) q).length)⟩
    case round =>
      clear HF HB2
      obtain ⟨k, hk, rfl, HF, HB, HQ⟩ := hrel
      have bw : Below w.heap.size w wr := by rw [HG.out]; exact HB.out
      by_cases hlt : k < T.length
      · have eL : decide ((k : Int) < (T.length : Int)) = true := decide_eq_true (by omega)
        obtain ⟨b, off, a1, c1, v, rfl, hBk, hck, hrd, hv1⟩ := (HX.out.below bw).rd.at_ hlt
        obtain ⟨cb, co, x, rfl, hBc, hcc, hx255, hxv⟩ := (HY.out.below bw).at_ (i := k) (by rw [HC.out]; exact hlt)
        have EV := Lib.hid (vecs_tAt hv1.out)
        have hvl := HX.out.each v (List.mem_of_getElem? (vecs_at hv1.out))
        have g1 : (0 : Int) ≤ (k : Int) := by omega
        have g2 : (k : Int) < (T.length : Int) := by omega
        have g3 : (k : Int) < (code.length : Int) := by rw [HC.out]; omega
        by_cases hge : v.length ≤ x
        · have f1 : decide ((v.length : Int) ≤ (x : Int)) = true := decide_eq_true (by omega)
          have E : Hid (lookB (vecs T) code = false) := Lib.hid (lookB_at (p := k) (by rw [HL.out]; exact hlt) (by rw [EV.out, hxv.out]; omega))
          have HBE := Lib.hid bw
          clear hv1 hxv EV HQ hrd bw
          go_wp2
          go_ret2
          exact ⟨HBE.out, .inl ⟨E.out, rfl⟩⟩
        · have f1 : decide ((v.length : Int) ≤ (x : Int)) = false := decide_eq_false (by omega)
          obtain ⟨bv, ov, y, rfl, hBv, hcv, hyv⟩ := hrd.at_ (i := x) (by omega)
          have x1 : (0 : Int) ≤ (x : Int) := by omega
          have x2 : (x : Int) < (v.length : Int) := by omega
          have ES : Hid (valK (vecs T) code (k + 1) = valK (vecs T) code k ++ [y]) := Lib.hid (by
            rw [valK_succ, EV.out, hxv.out, hyv.out])
          have HN : Hid (∀ q, q < k + 1 → cAt code q < (tAt (vecs T) q).length) := Lib.hid (fun q hq => by
            rcases Nat.lt_or_ge q k with h | h
            · exact HQ.out q h
            · obtain rfl : q = k := by omega
              rw [EV.out, hxv.out]; omega)
          have ck : wr.cell? ⟨g, k, none⟩ = some (.int .i64 0) := by
            have := HF.out.cell (by rw [List.length_map, valK_len]; exact hlt)
            rwa [List.length_map, valK_len] at this
          have fk : wr.frozen? ⟨g, k, none⟩ = false := HF.out.frozen k
          have HP : Hid (FilZ (wr.setCell ⟨g, k, none⟩ (.int .i64 y)) g g T.length 2 (.int .i64 0) ((valK (vecs T) code (k + 1)).map (Value.int .i64))) := Lib.hid (by
            have := HF.out.put (by rw [List.length_map, valK_len]; exact hlt) (.int .i64 y)
            rw [List.length_map, valK_len] at this
            rw [ES.out, List.map_append]
            exact this)
          have HBP : Hid (Below g w (wr.setCell ⟨g, k, none⟩ (.int .i64 y))) := Lib.hid (HB.out.setCell (p := ⟨g, k, none⟩) (Nat.le_refl _) _)
          clear hv1 hxv EV HQ hrd bw hyv HF HB ES
          go_wp2
          go_roundw
          case rel => exact ⟨k + 1, by omega, by go_num, HP, HBP, HN⟩
          case measure => simp [intOf]; omega
      · obtain rfl : k = T.length := by omega
        have eL : decide ((T.length : Int) < (T.length : Int)) = false := decide_eq_false (by omega)
        have E : Hid (lookB (vecs T) code = true) := Lib.hid (lookB_mk (by rw [HL.out]; exact HC.out) (by rw [HL.out]; exact HQ.out))
        have HD := Lib.hid (HF.out.done (by rw [List.length_map, valK_len]))
        have HBE := Lib.hid bw
        clear HQ bw HF
        go_wp2
        go_ret2
        exact ⟨HBE.out, .inr ⟨E.out, g, rfl, by rw [HG.out]; exact HD.out⟩⟩
  · have e1 : ((code.length : Int) == (T.length : Int)) = false := by simp; omega
    have E : Hid (lookB (vecs T) code = false) := Lib.hid (lookB_len (by rw [HL.out]; exact hne))
    clear hne
    go_enter Try.func84, Try.ntmps84
    go_wp2
    go_ret2
    exact ⟨Below.refl _ _, .inl ⟨E.out, rfl⟩⟩
set_option maxRecDepth 100000 in
set_option maxHeartbeats 1000000 in
theorem look_spec : PqLookSpec := by
  intro A c T B d code w hx hy
  have HN := Lib.hid (named64_any A c T B d code w hx hy)
  have HL := Lib.hid (vecs_len T)
  have hlen := hx.len
  clear hx hy
  go_enter Try.func25, Try.ntmps25
  go_wp2_with fail
  refine HN.out.mono ?_
  rintro e w1 ⟨hb, ⟨hF, rfl⟩ | ⟨hT, g, rfl, ho⟩⟩
  · have HA := Lib.hid (lookA_no hF)
    have HF := Lib.hid hF
    have HB := Lib.hid hb
    clear hF hb HN
    dsimp only
    go_wp2
    go_ret2
    exact ⟨ret2 HA.out.symm (by rw [HF.out]; rfl), HB.out⟩
  · have HA := Lib.hid ((lookA_yes hT).trans (by rw [HL.out]))
    have HT := Lib.hid hT
    have HB := Lib.hid hb
    have HO := Lib.hid ho
    clear hT hb HN ho
    dsimp only
    go_wp2
    go_loop [8, 21] (fun s i => ∃ k : Nat, k ≤ T.length ∧ i = .int .i64 k ∧ s = .int .i64 (lookK (vecs T) code k)) (fun _ i => T.length - (intOf i).toNat)
    case atStart => exact ⟨0, by omega, rfl, rfl⟩
    case round =>
      obtain ⟨k, hk, rfl, rfl⟩ := hrel
      by_cases hlt : k < T.length
      · have eL : decide ((k : Int) < (T.length : Int)) = true := decide_eq_true (by omega)
        have g1 : (0 : Int) ≤ (k : Int) := by omega
        have g2 : (k : Int) < (T.length : Int) := by omega
        obtain ⟨y, hy⟩ : ∃ y, (tAt (vecs T) k)[cAt code k]?.getD 0 = y := ⟨_, rfl⟩
        have ck : w1.cell? ⟨g, k, none⟩ = some (.int .i64 y) := by
          have := HO.out.cellAt k (by rw [Nat.mul_one]; exact hlt)
          rw [this, List.getElem?_map, valK_at hlt, hy]
          rfl
        have ES : Hid (lookK (vecs T) code (k + 1) = wrap64 (lookK (vecs T) code k + y)) := Lib.hid (by rw [← hy]; rfl)
        obtain ⟨s0, es0⟩ : ∃ s0, lookK (vecs T) code k = s0 := ⟨_, rfl⟩
        rw [es0] at ES ⊢
        clear es0 hy
        go_wp2
        go_round
        case rel => exact ⟨k + 1, by omega, by go_num, by rw [ES.out]⟩
        case measure => simp [intOf]; omega
      · obtain rfl : k = T.length := by omega
        have eL : decide ((T.length : Int) < (T.length : Int)) = false := decide_eq_false (by omega)
        go_wp2
        go_ret2
        exact ⟨ret2 HA.out.symm (by rw [HT.out]; rfl), HB.out⟩
end Go.Proofs.Ythbimjkcpmffcaa
/- Package pq: slices.Grow, slices.Concat at lists of small numbers. -/
namespace Go.Proofs.Ythbimjkcpmffcaa
open Go.RowKit Go.Lib
set_option linter.unusedVariables false
theorem infoVq : (Try.prog.info? 30).map (fun i => (i.zero, i.size, i.bytes)) = some (some (.slice none 0 0), 1, 24) := by kernel_rfl
theorem info8q : (Try.prog.info? 79).map (fun i => (i.zero, i.size, i.bytes)) = some (some (.int .i8 0), 1, 1) := by kernel_rfl
set_option maxRecDepth 100000 in
set_option maxHeartbeats 1000000 in
theorem grow8_any (n : Nat) (h1 : 1 ≤ n) (h2 : n ≤ 16777216) (w : World) :
    Calls Try.prog 102 #[.slice none 0 0, .int .i64 n] w fun e w' => ∃ c, e = .returned (.slice (some ⟨w.heap.size, 0, none⟩) 0 c) ∧ w'.ownsRow w.heap.size 79 1 (.slice (some ⟨w.heap.size, 0, none⟩) 0 c) 0 [] ∧ Below w.heap.size w w' := by
  obtain ⟨i0, hi, hz0, hz1, hz2⟩ := info_parts info8q
  have e1 : decide ((n : Int) < 0) = false := decide_eq_false (by omega)
  have e2 : decide ((0 : Int) < (n : Int)) = true := decide_eq_true (by omega)
  have hr := run_append_nil_zeros (P := Try.prog) w 30 3 30 79 i0 (.int .i8 0) .i64 .i64 Try.underlying30 Try.underlying3 hi hz0 n (by omega) (by rw [hz1]; decide) (by omega) (by rw [hz2]; omega)
  have hge := grownCap_ge w n 0 79
  have hle := grownCap_le_maxLen w n 0 79 (by unfold maxLen; omega)
  revert hr hge hle
  generalize grownCap w n 0 79 = C
  intro hr hge hle
  have ho := World.ownsRow_made (base := w.heap.size) (e := 79) (size := 1) w.drew (Builtin.zeroCells (Value.int .i8 0).cells n ++ Builtin.zeroCells (Value.int .i8 0).cells (C - n)) C (Nat.le_refl _) hle (by rw [Array.size_append, size_zeroCells, size_zeroCells]; show n * 1 + (C - n) * 1 = C * 1; omega)
  have hb : Below w.heap.size w (w.drew.alloc (.cells (Builtin.zeroCells (Value.int .i8 0).cells n ++ Builtin.zeroCells (Value.int .i8 0).cells (C - n)) 79)) := (Below.refl _ w).drew.alloc (Nat.le_refl _) _
  have hs : (w.drew.alloc (.cells (Builtin.zeroCells (Value.int .i8 0).cells n ++ Builtin.zeroCells (Value.int .i8 0).cells (C - n)) 79)).heap.size = w.heap.size + 1 := by simp
  revert hr ho hb hs
  generalize w.drew.alloc (.cells (Builtin.zeroCells (Value.int .i8 0).cells n ++ Builtin.zeroCells (Value.int .i8 0).cells (C - n)) 79) = W
  intro hr ho hb hs
  have HO := Lib.hid ho
  have HB := Lib.hid hb
  have HR := Lib.hid hr
  clear hi hz0 hz1 hz2 hr ho hb hs
  go_enter Try.func102, Try.ntmps102
  go_wp2_with (at_builtin; refine wpList_append_run _ (by rfl) _ _ 30 3 (by rfl) (.slice none 0 0) (.int .i64 n) (by rfl) (by rfl) _ _ HR.out ?_)
  go_ret
  exact ⟨C, rfl, HO.out, HB.out⟩
def catN (L : List Vc) (k : Nat) : List Int := (vecs (L.take k)).flatten
theorem catN_succ {L : List Vc} {k : Nat} {a : Option Addr} {c : Nat} {v : List Int} (h : L[k]? = some (a, c, v)) : catN L (k + 1) = catN L k ++ v := by
  unfold catN
  rw [List.take_add_one, h]
  simp [vecs]
theorem catN_zero (L : List Vc) : catN L 0 = [] := by simp [catN, vecs]
theorem catN_all (L : List Vc) : catN L L.length = (vecs L).flatten := by unfold catN; rw [List.take_length]
theorem catN_le (L : List Vc) (k : Nat) : (catN L k).length ≤ (vecs L).flatten.length := by
  unfold catN
  have : (vecs L).flatten = (vecs (L.take k)).flatten ++ (vecs (L.drop k)).flatten := by
    rw [← List.flatten_append]
    congr 1
    unfold vecs
    rw [← List.map_append, List.take_append_drop]
  rw [this, List.length_append]
  omega
set_option maxRecDepth 100000 in
set_option maxHeartbeats 2000000 in
theorem concat_any (A : Option Addr) (c : Nat) (L : List Vc) (m : Nat) (hm : m = L.length) (w : World) (hx : RdV w w.heap.size A L) (hl : L.length ≤ 1048576) (h1 : 1 ≤ (vecs L).flatten.length) (h2 : (vecs L).flatten.length ≤ 1048576) (hnl : ∀ v ∈ vecs L, 1 ≤ v.length) :
    Calls Try.prog 39 #[.slice A m c] w fun e w' => ∃ A' c', e = .returned (.slice A' (vecs L).flatten.length c') ∧ w'.ownsRow w.heap.size 79 1 (.slice A' (vecs L).flatten.length c') (vecs L).flatten.length ((vecs L).flatten.map (Value.int .i8)) ∧ Below w.heap.size w w' := by
  subst hm
  obtain ⟨i0, hi, hz0, hz1, hz2⟩ := info_parts info8q
  have HX := Lib.hid hx
  have H1 := Lib.hid h1
  have H2 := Lib.hid h2
  have HNL := Lib.hid hnl
  clear hx h1 h2 hnl
  go_enter Try.func39, Try.ntmps39
  go_wp2
  go_loop [3, 11] (fun s i => ∃ k : Nat, k ≤ L.length ∧ i = .int .i64 k ∧ s = .int .i64 ((catN L k).length : Nat)) (fun _ i => L.length - (intOf i).toNat)
  case atStart => exact ⟨0, by omega, rfl, by rw [catN_zero]; rfl⟩
  case round =>
    obtain ⟨k, hk, rfl, rfl⟩ := hrel
    by_cases hlt : k < L.length
    · have eL : decide ((k : Int) < (L.length : Int)) = true := decide_eq_true (by omega)
      obtain ⟨b, off, a1, c1, v, rfl, hBk, hck, hrd, hv1⟩ := HX.out.at_ hlt
      have g1 : (0 : Int) ≤ (k : Int) := by omega
      have g2 : (k : Int) < (L.length : Int) := by omega
      have EC := Lib.hid (congrArg List.length (catN_succ hv1.out))
      have hle := catN_le L (k + 1)
      have h2 := H2.out
      rw [EC.out, List.length_append] at hle
      have ES : Hid ((catN L (k + 1)).length = (catN L k).length + v.length) := Lib.hid (by rw [EC.out, List.length_append])
      obtain ⟨s0, es0⟩ : ∃ s0, (catN L k).length = s0 := ⟨_, rfl⟩
      rw [es0] at ES hle ⊢
      have hw : wrap64 ((s0 : Int) + (v.length : Int)) = ((s0 + v.length : Nat) : Int) := by unfold wrap64; omega
      clear es0 hrd hv1 EC h2
      go_wp2
      go_round
      case rel => exact ⟨k + 1, by omega, by go_num, by rw [ES.out, hw]⟩
      case measure => simp [intOf]; omega
    · obtain rfl : k = L.length := by omega
      have eL : decide ((L.length : Int) < (L.length : Int)) = false := decide_eq_false (by omega)
      have EA := Lib.hid (catN_all L)
      rw [EA.out]
      obtain ⟨z, ez⟩ : ∃ z, (vecs L).flatten.length = z := ⟨_, rfl⟩
      have HZ := Lib.hid ez
      have h1 := H1.out
      have h2 := H2.out
      rw [ez] at h1 h2 ⊢
      have GR := Lib.hid (grow8_any z h1 (by omega) w)
      clear ez
      go_wp2_with (go_at_call 102; refine GR.out.mono ?_; rintro e w1 ⟨c0, rfl, ho, hb⟩; have HO := Lib.hid ho; have HB := Lib.hid hb; clear ho hb)
      obtain ⟨g, eg⟩ : ∃ g, w.heap.size = g := ⟨_, rfl⟩
      have HG := Lib.hid eg
      rw [eg] at HO HB ⊢
      clear eg GR
      go_loopw [6, 27] (fun s i wr => ∃ (k : Nat) (V : Option Addr) (cv : Nat), k ≤ L.length ∧ i = .int .i64 k ∧ s = .slice V (catN L k).length cv ∧ Hid (wr.ownsRow g 79 1 (.slice V (catN L k).length cv) (catN L k).length ((catN L k).map (Value.int .i8))) ∧ Hid (Below g w wr)) (fun _ i _ => L.length - (intOf i).toNat)
      case atStart => exact ⟨0, some ⟨g, 0, none⟩, c0, by omega, rfl, by rw [catN_zero]; rfl, by rw [catN_zero]; exact HO, HB⟩
      case round =>
        clear HO HB
        obtain ⟨k, V, cv, hk, rfl, rfl, HO, HB⟩ := hrel
        have bw : Below w.heap.size w wr := by rw [HG.out]; exact HB.out
        by_cases hlt : k < L.length
        · have eL : decide ((k : Int) < (L.length : Int)) = true := decide_eq_true (by omega)
          obtain ⟨b, off, a1, c1, v, rfl, hBk, hck0, hrd0, hv1⟩ := HX.out.at_ hlt
          have hck := (bw.cell (p := ⟨b, off + k, none⟩) hBk).trans hck0
          have hrd := (hrd0.below bw).more bw.size
          have g1 : (0 : Int) ≤ (k : Int) := by omega
          have g2 : (k : Int) < (L.length : Int) := by omega
          have ES := Lib.hid (catN_succ hv1.out)
          have hle := catN_le L (k + 1)
          rw [ES.out, List.length_append, HZ.out] at hle
          have hgs : g ≤ wr.heap.size := by have := bw.size; have := HG.out; omega
          have h2 := H2.out
          rw [HZ.out] at h2
          have HEN : Hid ((catN L (k + 1)).length = (catN L k).length + v.length) := Lib.hid (by rw [ES.out, List.length_append])
          have hvn : a1 = none → c1 = 0 := fun h => by
            have h1 := HNL.out v (List.mem_of_getElem? (vecs_at hv1.out))
            obtain ⟨b', off', hA, _⟩ := hrd (by omega)
            rw [h] at hA
            cases hA
          obtain ⟨q, eq⟩ : ∃ q, (catN L k).length = q := ⟨_, rfl⟩
          rw [eq] at HO HEN hle ⊢
          clear eq hck0 hrd0 hv1 h1 bw
          go_wp2_with (at_builtin; refine wpList_app _ (by rfl) _ _ 30 (by rfl) g 79 i0 (.int .i8 0) 1 Try.underlying30 hi hz0 hz1 hz2 (by rfl) .i8 (.slice V q cv) q (catN L k) (by rfl) HO.out a1 v.length c1 v wr.heap.size (by rfl) rfl hrd hvn (by unfold maxLen; omega) (by omega) hgs ?_; intro v' w4 hown4 hg4)
          have HB4 := Lib.hid (HB.out.grown hg4 hgs (fun k e => (HO.out.lt k e).1))
          obtain ⟨V', cv', hv', _⟩ := own_slice hown4
          subst hv'
          have e5 := HEN.out
          rw [ES.out] at e5
          rw [e5] at hown4 ⊢
          have HO4 := Lib.hid hown4
          clear e5
          clear hown4 hg4 HO HB
          go_roundw
          case rel => exact ⟨k + 1, V', cv', by omega, by go_num, by rw [HEN.out], by rw [HEN.out, ES.out]; exact HO4.out, HB4⟩
          case measure => simp [intOf]; omega
        · obtain rfl : k = L.length := by omega
          have eL : decide ((L.length : Int) < (L.length : Int)) = false := decide_eq_false (by omega)
          rw [EA.out] at HO ⊢
          rw [HZ.out] at HO ⊢
          go_wp2
          go_ret
          exact ⟨V, cv, by rw [HZ.out]; rfl, by rw [HZ.out, HG.out]; exact HO.out, bw⟩
/-- What bytes name of the lists of words. -/
def codeB (ps : List (List (List Int))) (code : List Int) : Bool := decide (codeOk ps code)
theorem codeB_len {ps : List (List (List Int))} {code : List Int} (h : ¬ code.length = ps.length) : codeB ps code = false := decide_eq_false (fun k => h k.1)
theorem codeB_at {ps : List (List (List Int))} {code : List Int} {p : Nat} (hp : p < ps.length) (h : ¬ cAt code p < (pAt ps p).length) : codeB ps code = false := decide_eq_false (fun k => h (k.2 p hp))
theorem codeB_mk {ps : List (List (List Int))} {code : List Int} (h1 : code.length = ps.length) (h2 : ∀ p, p < ps.length → cAt code p < (pAt ps p).length) : codeB ps code = true := decide_eq_true ⟨h1, h2⟩
def wordK (ps : List (List (List Int))) (code : List Int) (k : Nat) : List (List Int) := (List.range k).map (wordAt ps code)
theorem wordK_succ (ps : List (List (List Int))) (code : List Int) (k : Nat) : wordK ps code (k + 1) = wordK ps code k ++ [wordAt ps code k] := by simp [wordK, List.range_succ]
/-- Words as they were named. -/
structure NmSt (w : World) (ps : List (List (List Int))) (code : List Int) (k : Nat) (T : List Vc) : Prop where
  len : T.length = k
  vec : vecs T = wordK ps code k
  rd : ∀ x ∈ T, Rd .i8 w w.heap.size x.1 x.2.2
theorem cellsV_snoc1 (T : List Vc) (x : Vc) : cellsV (T ++ [x]) = cellsV T ++ [.slice x.1 x.2.2.length x.2.1] := by simp [cellsV]
set_option maxRecDepth 100000 in
set_option maxHeartbeats 1000000 in
theorem named8_any (A : Option Addr) (c : Nat) (L : List Pc) (B : Option Addr) (d : Nat) (code : List Int) (w : World) (hx : PArg w A L) (hy : CArg w B code) :
    Calls Try.prog 38 #[.slice A L.length c, .slice B code.length d] w fun e w' => Below w.heap.size w w' ∧
      ((codeB (words L) code = false ∧ e = .returned (.tuple #[.slice none 0 0, .bool false])) ∨
       (codeB (words L) code = true ∧ ∃ g T, e = .returned (.tuple #[.slice (some ⟨g, 0, none⟩) L.length L.length, .bool true]) ∧ w'.ownsRow w.heap.size 30 1 (.slice (some ⟨g, 0, none⟩) L.length L.length) L.length (cellsV T) ∧ NmSt w (words L) code L.length T)) := by
  have HX := Lib.hid hx
  have HY := Lib.hid hy
  have HL := Lib.hid (words_len L)
  have hlen := hx.sm.len
  clear hx hy
  by_cases hne : code.length = L.length
  · have e1 : ((code.length : Int) == (L.length : Int)) = true := by simp; omega
    have HC := Lib.hid hne
    clear hne
    obtain ⟨i0, hi, hz0, hz1, hz2⟩ := info_parts infoVq
    have HLN := Lib.hid hlen
    go_enter Try.func38, Try.ntmps38
    go_wp2_with (at_make; refine wpList_make_full _ rfl _ _ 70 rfl w.heap.size 30 i0 (.slice none 0 0) 1 Try.underlying70 hi hz0 hz1 _ _ _ _ L.length rfl rfl rfl rfl (by rw [hz2]; have := HLN.out; omega) (by have := HLN.out; unfold maxLen; omega) (Nat.le_refl _) ?_; intro w2 hown hgrow)
    have HF := Lib.hid (FilZ.made (show w2.ownsRow w.heap.size 30 1 (.slice (some ⟨w.heap.size, 0, none⟩) L.length L.length) L.length (madeCells #[Value.slice none 0 0] (L.length * 1)).toList from hown))
    have HB2 := Lib.hid (below_of_grown0 hgrow)
    clear hown hgrow hi hz0 hz1 hz2
    obtain ⟨g, eg⟩ : ∃ g, w.heap.size = g := ⟨_, rfl⟩
    rw [eg] at HF HB2 ⊢
    have HG := Lib.hid eg
    clear eg
    go_loopw [20] (fun i wr => ∃ (k : Nat) (T : List Vc), k ≤ L.length ∧ i = .int .i64 k ∧ Hid (NmSt w (words L) code k T) ∧ Hid (FilZ wr g g L.length 30 (.slice none 0 0) (cellsV T)) ∧ Hid (Below g w wr) ∧ Hid (∀ q, q < k → cAt code q < (pAt (words L) q).length)) (fun i _ => L.length - (intOf i).toNat)
    case atStart => exact ⟨0, [], by omega, rfl, ⟨rfl, rfl, fun x hx => by simp at hx⟩, HF, HB2, (fun q hq => absurd hq (Nat.not_lt_zero _) : ∀ q, q < 0 → cAt code q < (pAt (words L) q).length)⟩
    case round =>
      clear HF HB2
      obtain ⟨k, T, hk, rfl, HS, HF, HB, HQ⟩ := hrel
      have bw : Below w.heap.size w wr := by rw [HG.out]; exact HB.out
      by_cases hlt : k < L.length
      · have eL : decide ((k : Int) < (L.length : Int)) = true := decide_eq_true (by omega)
        obtain ⟨b, off, a1, c1, M, rfl, hBk, hck0, hva, hv1⟩ := HX.out.at_ hlt
        have hck := (bw.cell (p := ⟨b, off + k, none⟩) hBk).trans hck0
        obtain ⟨cb, co, x, rfl, hBc, hcc, hx255, hxv⟩ := (HY.out.below bw).at_ (i := k) (by rw [HC.out]; exact hlt)
        have EV := Lib.hid (words_pAt hv1.out)
        have EVL := Lib.hid (vecs_len M)
        have hvl := hva.len
        have g1 : (0 : Int) ≤ (k : Int) := by omega
        have g2 : (k : Int) < (L.length : Int) := by omega
        have g3 : (k : Int) < (code.length : Int) := by rw [HC.out]; omega
        by_cases hge : M.length ≤ x
        · have f1 : decide ((M.length : Int) ≤ (x : Int)) = true := decide_eq_true (by omega)
          have E : Hid (codeB (words L) code = false) := Lib.hid (codeB_at (p := k) (by rw [HL.out]; exact hlt) (by rw [EV.out, hxv.out, EVL.out]; omega))
          have HBE := Lib.hid bw
          clear hv1 hxv EV HQ hva bw hck0
          go_wp2
          go_ret2
          exact ⟨HBE.out, .inl ⟨E.out, rfl⟩⟩
        · have f1 : decide ((M.length : Int) ≤ (x : Int)) = false := decide_eq_false (by omega)
          obtain ⟨bv, ov, a2, c2, v, rfl, hBv, hcv0, hrdv, hyv⟩ := hva.rd.at_ (i := x) (by omega)
          have hcv := (bw.cell (p := ⟨bv, ov + x, none⟩) hBv).trans hcv0
          have x1 : (0 : Int) ≤ (x : Int) := by omega
          have x2 : (x : Int) < (M.length : Int) := by omega
          have EW : Hid (wordAt (words L) code k = v) := Lib.hid (by unfold wordAt; rw [EV.out, hxv.out, vecs_vAt hyv.out])
          have HN : Hid (∀ q, q < k + 1 → cAt code q < (pAt (words L) q).length) := Lib.hid (fun q hq => by
            rcases Nat.lt_or_ge q k with h | h
            · exact HQ.out q h
            · obtain rfl : q = k := by omega
              rw [EV.out, hxv.out, EVL.out]; omega)
          have hTl : (cellsV T).length = k := by rw [cellsV_len, HS.out.len]
          have ck : wr.cell? ⟨g, k, none⟩ = some (.slice none 0 0) := by
            have := HF.out.cell (by rw [hTl]; exact hlt)
            rwa [hTl] at this
          have fk : wr.frozen? ⟨g, k, none⟩ = false := HF.out.frozen k
          have HP : Hid (FilZ (wr.setCell ⟨g, k, none⟩ (.slice a2 v.length c2)) g g L.length 30 (.slice none 0 0) (cellsV (T ++ [(a2, c2, v)]))) := Lib.hid (by
            have := HF.out.put (by rw [hTl]; exact hlt) (.slice a2 v.length c2)
            rw [hTl] at this
            rw [cellsV_snoc1]
            exact this)
          have HBP : Hid (Below g w (wr.setCell ⟨g, k, none⟩ (.slice a2 v.length c2))) := Lib.hid (HB.out.setCell (p := ⟨g, k, none⟩) (Nat.le_refl _) _)
          have HS2 : Hid (NmSt w (words L) code (k + 1) (T ++ [(a2, c2, v)])) := Lib.hid ⟨by rw [List.length_append, HS.out.len]; rfl, by rw [wordK_succ, EW.out, ← HS.out.vec]; simp [vecs], fun y hy => by
            rcases List.mem_append.1 hy with h | h
            · exact HS.out.rd y h
            · rw [List.mem_singleton] at h
              subst h
              exact hrdv⟩
          clear hv1 hxv EV HQ hva bw hyv HF HB EW hTl hck0 hcv0 hrdv HS
          go_wp2
          go_roundw
          case rel => exact ⟨k + 1, _, by omega, by go_num, HS2, HP, HBP, HN⟩
          case measure => simp [intOf]; omega
      · obtain rfl : k = L.length := by omega
        have eL : decide ((L.length : Int) < (L.length : Int)) = false := decide_eq_false (by omega)
        have E : Hid (codeB (words L) code = true) := Lib.hid (codeB_mk (by rw [HL.out]; exact HC.out) (by rw [HL.out]; exact HQ.out))
        have HD := Lib.hid (HF.out.done (by rw [cellsV_len, HS.out.len]))
        have HBE := Lib.hid bw
        clear HQ bw HF
        go_wp2
        go_ret2
        exact ⟨HBE.out, .inr ⟨E.out, g, T, rfl, by rw [HG.out]; exact HD.out, HS.out⟩⟩
  · have e1 : ((code.length : Int) == (L.length : Int)) = false := by simp; omega
    have E : Hid (codeB (words L) code = false) := Lib.hid (codeB_len (by rw [HL.out]; exact hne))
    clear hne
    go_enter Try.func38, Try.ntmps38
    go_wp2
    go_ret2
    exact ⟨Below.refl _ _, .inl ⟨E.out, rfl⟩⟩
end Go.Proofs.Ythbimjkcpmffcaa
/- Package pq: Decode. -/
namespace Go.Proofs.Ythbimjkcpmffcaa
open Go.RowKit
set_option linter.unusedVariables false
set_option maxRecDepth 100000 in
set_option maxHeartbeats 1000000 in
theorem dimOf_any (P : Int) (A : Option Addr) (c : Nat) (L : List Pc) (w : World) (hx : PArg w A L) :
    Calls Try.prog 37 #[.agg #[.int .i64 P, .slice A L.length c]] w fun e w' => e = .returned (.int .i64 ((dimS (words L) : Nat) : Int)) ∧ Below w.heap.size w w' := by
  have W0 := Whole.new w 24 #[.int .i64 P, .slice A L.length c]
  have B0 : Below w.heap.size w (w.alloc (.cells #[.int .i64 P, .slice A L.length c] 24)) := below_one (Below.refl _ _) _
  have HX := Lib.hid (hx.below B0)
  have HB0 := Lib.hid B0
  have hlen := hx.sm.len
  have HL := Lib.hid (words_len L)
  have HD : Hid (∀ k, dimS ((words L).take k) ≤ 20000) := Lib.hid (fun k => Nat.le_trans (dimS_take_le _ _) (Nat.le_trans (dimS_le _) hx.sm))
  have p1 : (w.alloc (.cells #[.int .i64 P, .slice A L.length c] 24)).cell? ⟨w.heap.size, 1, none⟩ = some (.slice A L.length c) := W0.cell 1
  clear W0 B0 hx
  go_enter Try.func37, Try.ntmps37
  go_wp2
  go_loop [3, 9] (fun s i => ∃ k m : Nat, k ≤ L.length ∧ i = .int .i64 k ∧ s = .int .i64 m ∧ Hid (m = dimS ((words L).take k))) (fun _ i => L.length - (intOf i).toNat)
  case atStart => exact ⟨0, 0, by omega, rfl, rfl, rfl⟩
  case round =>
    obtain ⟨k, m, hk, rfl, rfl, hm⟩ := hrel
    by_cases hlt : k < L.length
    · have e1 : decide ((k : Int) < (L.length : Int)) = true := decide_eq_true (by omega)
      obtain ⟨b, off, a1, c1, M, rfl, hBk, hck, hG, hv1⟩ := HX.out.at_ hlt
      have hs := dimS_take (words_at hv1.out)
      have hb1 := HD.out k
      have hb2 := HD.out (k + 1)
      by_cases h0 : 0 < M.length
      · have e2 : decide ((0 : Int) < (M.length : Int)) = true := decide_eq_true (by omega)
        obtain ⟨bv, ov, a2, c2, v, rfl, hBv, hcv, -, hvv⟩ := hG.rd.at_ h0
        rw [Nat.add_zero] at hcv
        have HD0 : Hid (m + v.length = dimS ((words L).take (k + 1))) := Lib.hid (by rw [hs, dim0 hvv.out, hm.out])
        have hb3 : m + v.length ≤ 20000 := by rw [HD0.out]; exact hb2
        clear hs hb1 hb2 hm hG hv1 hvv
        go_wp2
        go_round
        case rel => exact ⟨k + 1, m + v.length, by omega, by go_num, by go_num, HD0⟩
        case measure => simp [intOf]; omega
      · have e2 : decide ((0 : Int) < (M.length : Int)) = false := decide_eq_false (by omega)
        have HD0 : Hid (m = dimS ((words L).take (k + 1))) := Lib.hid (by
          rw [hs, hm.out]
          have : dimOf (vecs M) = 0 := by unfold dimOf; rw [List.getElem?_eq_none (by rw [vecs_len]; omega)]; rfl
          rw [this]; rfl)
        clear hs hb1 hb2 hm hG hv1
        go_wp2
        go_round
        case rel => exact ⟨k + 1, m, by omega, by go_num, rfl, HD0⟩
        case measure => simp [intOf]; omega
    · obtain rfl : k = L.length := by omega
      have e1 : decide ((L.length : Int) < (L.length : Int)) = false := decide_eq_false (by omega)
      have h1 := hm.out
      rw [List.take_of_length_le (by rw [HL.out]; exact Nat.le_refl _)] at h1
      have HZ := Lib.hid h1
      clear hm h1
      go_wp2
      go_ret
      exact ⟨ret1 (by have h := HZ.out; omega), HB0.out⟩
/-- A region whose orders all end alike but for the world, of which R tells. -/
theorem wp_once {P : Program} {c : Code} {Q : Exit → Act → World → Prop} {a : Act} {w : World} (R : World → Prop) (A : Act) (h : c.wp P (fun e a' w' => e = .normal ∧ a' = A ∧ R w') a w) (hQ : ∀ w', R w' → Q .normal A w') : c.wp P Q a w :=
  wp_mono h (fun e a' w' ⟨h1, h2, h3⟩ => by subst h1; subst h2; exact hQ _ h3)
theorem decA_flat {P : Int} {ps : List (List (List Int))} {code : List Int} (h : decB P ps code = true) : decA P ps code = (wordK ps code ps.length).flatten := by unfold decA; rw [if_pos h]; rfl
theorem decB_both {P : Int} {ps : List (List (List Int))} {code : List Int} {b : Bool} (h : bookB P ps ((dimS ps : Nat) : Int) = true) (hc : codeB ps code = b) : decB P ps code = b := by unfold decB; rw [h, Bool.true_and]; exact hc
set_option maxRecDepth 100000 in
set_option maxHeartbeats 4000000 in
theorem decode_any (P : Int) (A : Option Addr) (c : Nat) (L : List Pc) (B : Option Addr) (d : Nat) (code : List Int) (w : World) (hx : PArg w A L) (hy : CArg w B code) :
    Calls Try.prog 15 #[.agg #[.int .i64 P, .slice A L.length c], .slice B code.length d] w (NAns w .i8 79 (decA P (words L) code) (errE (decB P (words L) code))) := by
  have W0 := Whole.new w 24 #[.int .i64 P, .slice A L.length c]
  have B0 : Below w.heap.size w (w.alloc (.cells #[.int .i64 P, .slice A L.length c] 24)) := below_one (Below.refl _ _) _
  have hX1 := hx.below B0
  have DM : Hid (∀ W, Below (w.alloc (.cells #[.int .i64 P, .slice A L.length c] 24)).heap.size (w.alloc (.cells #[.int .i64 P, .slice A L.length c] 24)) W → Calls Try.prog 37 #[.agg #[.int .i64 P, .slice A L.length c]] W fun e w' => e = .returned (.int .i64 ((dimS (words L) : Nat) : Int)) ∧ w'.cell? ⟨w.heap.size, 0, none⟩ = some (.int .i64 P) ∧ w'.cell? ⟨w.heap.size, 1, none⟩ = some (.slice A L.length c) ∧ Below (w.alloc (.cells #[.int .i64 P, .slice A L.length c] 24)).heap.size (w.alloc (.cells #[.int .i64 P, .slice A L.length c] 24)) w') := Lib.hid (fun W hb => (dimOf_any P A c L W (hX1.below hb)).mono fun e w' h => by
    have b2 := hb.trans (h.2.mono hb.size)
    exact ⟨h.1, (W0.below b2 W0.lt).cell 0, (W0.below b2 W0.lt).cell 1, b2⟩)
  have CK : Hid (∀ W, Below (w.alloc (.cells #[.int .i64 P, .slice A L.length c] 24)).heap.size (w.alloc (.cells #[.int .i64 P, .slice A L.length c] 24)) W → Calls Try.prog 30 #[.agg #[.int .i64 P, .slice A L.length c], .int .i64 ((dimS (words L) : Nat) : Int)] W fun e w' => e = .returned (.bool (bookB P (words L) ((dimS (words L) : Nat) : Int))) ∧ w'.cell? ⟨w.heap.size, 0, none⟩ = some (.int .i64 P) ∧ w'.cell? ⟨w.heap.size, 1, none⟩ = some (.slice A L.length c) ∧ Below (w.alloc (.cells #[.int .i64 P, .slice A L.length c] 24)).heap.size (w.alloc (.cells #[.int .i64 P, .slice A L.length c] 24)) w') := Lib.hid (fun W hb => (check_any P A c L _ W (hX1.below hb)).mono fun e w' h => by
    have b2 := hb.trans (h.2.mono hb.size)
    exact ⟨h.1, (W0.below b2 W0.lt).cell 0, (W0.below b2 W0.lt).cell 1, b2⟩)
  have HX := Lib.hid hX1
  have HY := Lib.hid (hy.below B0)
  have hlen := hx.sm.len
  have hcl := hy.len
  have HL := Lib.hid (words_len L)
  have HW0 := Lib.hid W0
  have HB0 := Lib.hid B0
  clear W0 B0 hx hy hX1
  cases hb : bookB P (words L) ((dimS (words L) : Nat) : Int) with
  | false =>
    rw [hb] at CK
    have hdb : decB P (words L) code = false := by unfold decB; rw [hb]; rfl
    have hda : decA P (words L) code = [] := by unfold decA; rw [hdb]; rfl
    rw [hda, hdb, errE_false]
    clear hb hdb hda
    go_enter Try.func15, Try.ntmps15
    go_wp2_with fail
    obtain ⟨bx, ebx⟩ : ∃ bx, w.heap.size = bx := ⟨_, rfl⟩
    obtain ⟨w1, ew1⟩ : ∃ w1, w.alloc (.cells #[.int .i64 P, .slice A L.length c] 24) = w1 := ⟨_, rfl⟩
    rw [ew1] at HX HY HB0 HW0 DM CK
    rw [ebx] at HW0 DM CK
    rw [ew1, ebx]
    have k0 : w1.drew.cell? ⟨bx, 0, none⟩ = some (.int .i64 P) := HW0.out.cell 0
    have k1 : w1.drew.cell? ⟨bx, 1, none⟩ = some (.slice A L.length c) := HW0.out.cell 1
    have kb : Below w1.heap.size w1 w1.drew := (Below.refl _ _).drew
    clear ebx ew1
    first
      | (go_region_law
      (first
        | (go_simp; go_at_call 37; (with_reducible refine (DM.out _ (by first | with_reducible assumption | exact Below.refl _ _)).mono ?_); rintro e w2 ⟨rfl, ka0, ka1, kab⟩)
        | (go_simp; go_at_call 30; (with_reducible refine (CK.out _ (by first | with_reducible assumption | exact Below.refl _ _)).mono ?_); rintro e w3 ⟨rfl, kc0, kc1, kcb⟩)))
      | fail
    all_goals
      have HK := Lib.hid (⟨kc0, kc1, kcb⟩ : _ ∧ _ ∧ _)
      have HB3 := Lib.hid (HB0.out.trans (kcb.mono HB0.out.size))
      clear k0 k1 kb ka0 ka1 kab kc0 kc1 kcb DM CK
      go_wp2
      go_ret2
      exact NAns.nil _ _ _ _ HB3.out
  | true =>
    obtain ⟨hP, hok⟩ := bookB_yes hb
    rw [hb] at CK
    have HOK := Lib.hid hok
    have HBO := Lib.hid hb
    clear hb hok hP
    go_enter Try.func15, Try.ntmps15
    go_wp2_with fail
    obtain ⟨bx, ebx⟩ : ∃ bx, w.heap.size = bx := ⟨_, rfl⟩
    obtain ⟨w1, ew1⟩ : ∃ w1, w.alloc (.cells #[.int .i64 P, .slice A L.length c] 24) = w1 := ⟨_, rfl⟩
    rw [ew1] at HX HY HB0 HW0 DM CK
    rw [ebx] at HW0 DM CK
    rw [ew1, ebx]
    have k0 : w1.drew.cell? ⟨bx, 0, none⟩ = some (.int .i64 P) := HW0.out.cell 0
    have k1 : w1.drew.cell? ⟨bx, 1, none⟩ = some (.slice A L.length c) := HW0.out.cell 1
    have kb : Below w1.heap.size w1 w1.drew := (Below.refl _ _).drew
    have HEB := Lib.hid ebx
    clear ebx ew1
    apply wp_once (fun w' => Below w1.heap.size w1 w')
    case h =>
      first
        | (go_region_law
        (first
          | (go_simp; go_at_call 37; (with_reducible refine (DM.out _ (by first | with_reducible assumption | exact Below.refl _ _)).mono ?_); rintro e w2 ⟨rfl, ka0, ka1, kab⟩)
          | (go_simp; go_at_call 30; (with_reducible refine (CK.out _ (by first | with_reducible assumption | exact Below.refl _ _)).mono ?_); rintro e w3 ⟨rfl, kc0, kc1, kcb⟩)))
        | fail
      all_goals exact ⟨rfl, rfl, kcb⟩
    case hQ =>
      intro w3 hb3
      have HX3 := Lib.hid (HX.out.below hb3)
      have HY3 := Lib.hid (HY.out.below hb3)
      have HB3 := Lib.hid (HB0.out.trans (hb3.mono HB0.out.size))
      have c1 : w3.cell? ⟨bx, 1, none⟩ = some (.slice A L.length c) := (HW0.out.below hb3 HW0.out.lt).cell 1
      clear k0 k1 kb hb3 DM CK
      go_wp2_with fail
      refine (named8_any A c L B d code w3 HX3.out HY3.out).mono ?_
      rintro e w4 ⟨hb4, ⟨hF, rfl⟩ | ⟨hT, g, T, rfl, ho, hn⟩⟩
      · have hdb := decB_both HBO.out hF
        have hda : decA P (words L) code = [] := by unfold decA; rw [hdb]; rfl
        have HB4 := Lib.hid (HB3.out.trans (hb4.mono HB3.out.size))
        have HDA := Lib.hid hda
        have HDB := Lib.hid hdb
        clear hdb hda hF hb4
        dsimp only
        go_wp2
        go_ret2
        rw [HDA.out, HDB.out, errE_false]
        exact NAns.nil _ _ _ _ HB4.out
      · have hdb := decB_both HBO.out hT
        have hda := decA_flat hdb
        rw [HL.out, ← hn.vec] at hda
        have HK := Lib.hid (of_decide_eq_true hT : codeOk (words L) code)
        have hlen2 : (vecs T).flatten.length ≤ 64 := by
          have h1 := dec_len HOK.out HK.out
          have h2 : decL (words L) code = (vecs T).flatten := by rw [hn.vec]; unfold decL wordK; rw [HL.out]
          rw [← h2, h1]
          have := HOK.out.2.1
          simpa using this
        have hpos : 1 ≤ (vecs T).flatten.length := by
          have h1 := dec_len HOK.out HK.out
          have h2 : decL (words L) code = (vecs T).flatten := by rw [hn.vec]; unfold decL wordK; rw [HL.out]
          rw [← h2, h1]
          have := HOK.out.1
          simpa using this
        have hone : ∀ v ∈ vecs T, 1 ≤ v.length := fun v hv => by
          rw [hn.vec] at hv
          obtain ⟨p, hp, rfl⟩ := List.mem_map.1 hv
          rw [List.mem_range] at hp
          rw [word_len HOK.out HK.out (by rw [HL.out]; exact hp)]
          exact (HOK.out.part (by rw [HL.out]; exact hp)).1
        have hTl := hn.len
        have hrd : RdV w4 w4.heap.size (some ⟨g, 0, none⟩) T := row_rdV (base := w3.heap.size) (c := L.length) (by rw [hTl]; exact ho) (fun x hx => ((hn.rd x hx).below hb4).more hb4.size)
        have CC := Lib.hid (concat_any (some ⟨g, 0, none⟩) L.length T L.length hTl.symm w4 hrd (by omega) hpos (by omega) hone)
        obtain ⟨fl, efl⟩ : ∃ fl, (vecs T).flatten = fl := ⟨_, rfl⟩
        rw [efl] at CC hda hlen2 hpos
        clear efl
        have HB4 := Lib.hid (HB3.out.trans (hb4.mono HB3.out.size))
        have HDA := Lib.hid hda
        have HDB := Lib.hid hdb
        clear hdb hda hT hb4 hrd ho hn hlen2 hpos hone hTl
        dsimp only
        go_wp2_with (go_at_call 39; refine CC.out.mono ?_; rintro e w5 ⟨A', c', rfl, ho5, hb5⟩)
        go_ret2
        rw [HDA.out, HDB.out, errE_true]
        refine ⟨A', c', rfl, own_base ho5 (by have := HB4.out.size; omega), HB4.out.trans (hb5.mono HB4.out.size)⟩
/-- Decode. -/
theorem decode_spec : PqDecodeSpec := fun P A c L B d code w hx hy => decode_any P A c L B d code w hx hy
end Go.Proofs.Ythbimjkcpmffcaa
