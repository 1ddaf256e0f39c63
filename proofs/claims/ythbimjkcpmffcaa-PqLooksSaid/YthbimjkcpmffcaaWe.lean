/- Package pq: what the bytes of a code name of lists of numbers; Look. -/
import Derived.Test.YthbimjkcpmffcaaPk
import Derived.Laws.OwnMore
namespace Go.Proofs.Ythbimjkcpmffcaa
open Go.RowKit
set_option linter.unusedVariables false
/-- A row of the call's own, of n places, of which the first ones are filled. -/
structure FilZ (w : World) (base g n : Nat) (e : TypeId) (z : Value) (T : List Value) : Prop where
  row : w.ownsRow base e 1 (.slice (some ⟨g, 0, none⟩) n n) n (T ++ List.replicate (n - T.length) z)
  len : T.length ≤ n
theorem madeZ (z : Value) (n : Nat) : (madeCells #[z] (n * 1)).toList = List.replicate n z := by
  unfold madeCells
  rw [Nat.mul_one]
  refine List.ext_getElem (by simp) (fun i h1 h2 => ?_)
  simp [Nat.mod_one]
theorem FilZ.made {w : World} {base g n : Nat} {e : TypeId} {z : Value} (h : w.ownsRow base e 1 (.slice (some ⟨g, 0, none⟩) n n) n (madeCells #[z] (n * 1)).toList) : FilZ w base g n e z [] :=
  ⟨by rw [madeZ] at h; simpa using h, by simp⟩
theorem FilZ.below {w w' : World} {base g n : Nat} {e : TypeId} {z : Value} {T : List Value} (h : FilZ w base g n e z T) (hb : Below w.heap.size w w') : FilZ w' base g n e z T := ⟨own_below h.row hb, h.len⟩
theorem FilZ.cell {w : World} {base g n : Nat} {e : TypeId} {z : Value} {T : List Value} (h : FilZ w base g n e z T) (hk : T.length < n) : w.cell? ⟨g, T.length, none⟩ = some z := by
  rw [h.row.cellAt T.length (by simpa using hk), List.getElem?_append_right (Nat.le_refl _), Nat.sub_self, List.getElem?_replicate, if_pos (by omega)]
theorem FilZ.put {w : World} {base g n : Nat} {e : TypeId} {z : Value} {T : List Value} (h : FilZ w base g n e z T) (hk : T.length < n) (v : Value) : FilZ (w.setCell ⟨g, T.length, none⟩ v) base g n e z (T ++ [v]) := by
  have h1 := (h.row.stored T.length v).1
  have e1 : (T ++ List.replicate (n - T.length) z).set T.length v = (T ++ [v]) ++ List.replicate (n - (T ++ [v]).length) z := by
    rw [List.set_append_right _ _ (Nat.le_refl _), Nat.sub_self, show n - T.length = (n - (T ++ [v]).length) + 1 by simp; omega, List.replicate_succ, List.set_cons_zero, List.append_assoc]
    rfl
  rw [e1] at h1
  exact ⟨h1, by simp; omega⟩
theorem FilZ.done {w : World} {base g n : Nat} {e : TypeId} {z : Value} {T : List Value} (h : FilZ w base g n e z T) (hk : T.length = n) : w.ownsRow base e 1 (.slice (some ⟨g, 0, none⟩) n n) n T := by
  have := h.row
  rw [hk, Nat.sub_self] at this
  simpa using this
theorem FilZ.ge {w : World} {base g n : Nat} {e : TypeId} {z : Value} {T : List Value} (h : FilZ w base g n e z T) : base ≤ g ∧ g < w.heap.size := h.row.lt g rfl
theorem FilZ.frozen {w : World} {base g n : Nat} {e : TypeId} {z : Value} {T : List Value} (h : FilZ w base g n e z T) (k : Nat) : w.frozen? ⟨g, k, none⟩ = false := by
  obtain ⟨h1, h2 | ⟨g', cap, cur, hv, _, hg, _⟩⟩ := h.row
  · simp at h2
  · injection hv with q1
    injection q1 with q1
    injection q1 with q1
    subst q1
    exact (show Whole w g e cur from hg).frozen k
def valK (t : List (List Int)) (code : List Int) (k : Nat) : List Int := (List.range k).map fun p => (tAt t p)[cAt code p]?.getD 0
theorem valK_len (t : List (List Int)) (code : List Int) (k : Nat) : (valK t code k).length = k := by simp [valK]
theorem valK_succ (t : List (List Int)) (code : List Int) (k : Nat) : valK t code (k + 1) = valK t code k ++ [(tAt t k)[cAt code k]?.getD 0] := by simp [valK, List.range_succ]
theorem valK_at {t : List (List Int)} {code : List Int} {n k : Nat} (h : k < n) : (valK t code n)[k]? = some ((tAt t k)[cAt code k]?.getD 0) := by simp [valK, h]
theorem info64q : (Try.prog.info? 2).map (fun i => (i.zero, i.size, i.bytes)) = some (some (.int .i64 0), 1, 8) := by kernel_rfl
theorem below_of_grown0 {w w' : World} (h : w.grownBy w' none) : Below w.heap.size w w' := ⟨h.os, h.tape, h.output, h.size, fun k hk => h.block k hk (by simp)⟩
set_option maxRecDepth 100000 in
set_option maxHeartbeats 1000000 in
theorem named64_any (A : Option Addr) (c : Nat) (T : List Vc) (B : Option Addr) (d : Nat) (code : List Int) (w : World) (hx : TArg w A T) (hy : CArg w B code) :
    Calls Try.prog 84 #[.slice A T.length c, .slice B code.length d] w fun e w' => Below w.heap.size w w' ∧
      ((lookB (vecs T) code = false ∧ e = .returned (.tuple #[.slice none 0 0, .bool false])) ∨
       (lookB (vecs T) code = true ∧ ∃ g, e = .returned (.tuple #[.slice (some ⟨g, 0, none⟩) T.length T.length, .bool true]) ∧ w'.ownsRow w.heap.size 2 1 (.slice (some ⟨g, 0, none⟩) T.length T.length) T.length ((valK (vecs T) code T.length).map (Value.int .i64)))) := by
  have HX := Lib.hid hx
  have HY := Lib.hid hy
  have HL := Lib.hid (vecs_len T)
  have hlen := hx.len
  clear hx hy
  by_cases hne : code.length = T.length
  · have e1 : ((code.length : Int) == (T.length : Int)) = true := by simp; omega
    have HC := Lib.hid hne
    clear hne
    obtain ⟨i0, hi, hz0, hz1, hz2⟩ := info_parts info64q
    have HLN := Lib.hid hlen
    go_enter Try.func84, Try.ntmps84
    go_wp2_with (at_make; refine wpList_make_full _ rfl _ _ 57 rfl w.heap.size 2 i0 (.int .i64 0) 1 Try.underlying57 hi hz0 hz1 _ _ _ _ T.length rfl rfl rfl rfl (by rw [hz2]; have := HLN.out; omega) (by have := HLN.out; unfold maxLen; omega) (Nat.le_refl _) ?_; intro w2 hown hgrow)
    have HF := Lib.hid (FilZ.made hown)
    have HB2 := Lib.hid (below_of_grown0 hgrow)
    clear hown hgrow hi hz0 hz1 hz2
    obtain ⟨g, eg⟩ : ∃ g, w.heap.size = g := ⟨_, rfl⟩
    rw [eg] at HF HB2 ⊢
    have HG := Lib.hid eg
    clear eg
    go_loopw [20] (fun i wr => ∃ k : Nat, k ≤ T.length ∧ i = .int .i64 k ∧ Hid (FilZ wr g g T.length 2 (.int .i64 0) ((valK (vecs T) code k).map (Value.int .i64))) ∧ Hid (Below g w wr) ∧ Hid (∀ q, q < k → cAt code q < (tAt (vecs T) q).length)) (fun i _ => T.length - (intOf i).toNat)
    case atStart => exact ⟨0, by omega, rfl, HF, HB2, (fun q hq => absurd hq (Nat.not_lt_zero _) : ∀ q, q < 0 → cAt code q < (tAt (vecs T) q).length)⟩
    case round =>
      clear HF HB2
      obtain ⟨k, hk, rfl, HF, HB, HQ⟩ := hrel
      have bw : Below w.heap.size w wr := by rw [HG.out]; exact HB.out
      by_cases hlt : k < T.length
      · have eL : decide ((k : Int) < (T.length : Int)) = true := decide_eq_true (by omega)
        obtain ⟨b, off, a1, c1, v, rfl, hBk, hck, hrd, hv1⟩ := (HX.out.below bw).rd.at_ hlt
        obtain ⟨cb, co, x, rfl, hBc, hcc, hx255, hxv⟩ := (HY.out.below bw).at_ (i := k) (by rw [HC.out]; exact hlt)
        have EV := Lib.hid (vecs_tAt hv1.out)
        have hvl := HX.out.each v (List.mem_of_getElem? (vecs_at hv1.out))
        have g1 : (0 : Int) ≤ (k : Int) := by omega
        have g2 : (k : Int) < (T.length : Int) := by omega
        have g3 : (k : Int) < (code.length : Int) := by rw [HC.out]; omega
        by_cases hge : v.length ≤ x
        · have f1 : decide ((v.length : Int) ≤ (x : Int)) = true := decide_eq_true (by omega)
          have E : Hid (lookB (vecs T) code = false) := Lib.hid (lookB_at (p := k) (by rw [HL.out]; exact hlt) (by rw [EV.out, hxv.out]; omega))
          have HBE := Lib.hid bw
          clear hv1 hxv EV HQ hrd bw
          go_wp2
          go_ret2
          exact ⟨HBE.out, .inl ⟨E.out, rfl⟩⟩
        · have f1 : decide ((v.length : Int) ≤ (x : Int)) = false := decide_eq_false (by omega)
          obtain ⟨bv, ov, y, rfl, hBv, hcv, hyv⟩ := hrd.at_ (i := x) (by omega)
          have x1 : (0 : Int) ≤ (x : Int) := by omega
          have x2 : (x : Int) < (v.length : Int) := by omega
          have ES : Hid (valK (vecs T) code (k + 1) = valK (vecs T) code k ++ [y]) := Lib.hid (by
            rw [valK_succ, EV.out, hxv.out, hyv.out])
          have HN : Hid (∀ q, q < k + 1 → cAt code q < (tAt (vecs T) q).length) := Lib.hid (fun q hq => by
            rcases Nat.lt_or_ge q k with h | h
            · exact HQ.out q h
            · obtain rfl : q = k := by omega
              rw [EV.out, hxv.out]; omega)
          have ck : wr.cell? ⟨g, k, none⟩ = some (.int .i64 0) := by
            have := HF.out.cell (by rw [List.length_map, valK_len]; exact hlt)
            rwa [List.length_map, valK_len] at this
          have fk : wr.frozen? ⟨g, k, none⟩ = false := HF.out.frozen k
          have HP : Hid (FilZ (wr.setCell ⟨g, k, none⟩ (.int .i64 y)) g g T.length 2 (.int .i64 0) ((valK (vecs T) code (k + 1)).map (Value.int .i64))) := Lib.hid (by
            have := HF.out.put (by rw [List.length_map, valK_len]; exact hlt) (.int .i64 y)
            rw [List.length_map, valK_len] at this
            rw [ES.out, List.map_append]
            exact this)
          have HBP : Hid (Below g w (wr.setCell ⟨g, k, none⟩ (.int .i64 y))) := Lib.hid (HB.out.setCell (p := ⟨g, k, none⟩) (Nat.le_refl _) _)
          clear hv1 hxv EV HQ hrd bw hyv HF HB ES
          go_wp2
          go_roundw
          case rel => exact ⟨k + 1, by omega, by go_num, HP, HBP, HN⟩
          case measure => simp [intOf]; omega
      · obtain rfl : k = T.length := by omega
        have eL : decide ((T.length : Int) < (T.length : Int)) = false := decide_eq_false (by omega)
        have E : Hid (lookB (vecs T) code = true) := Lib.hid (lookB_mk (by rw [HL.out]; exact HC.out) (by rw [HL.out]; exact HQ.out))
        have HD := Lib.hid (HF.out.done (by rw [List.length_map, valK_len]))
        have HBE := Lib.hid bw
        clear HQ bw HF
        go_wp2
        go_ret2
        exact ⟨HBE.out, .inr ⟨E.out, g, rfl, by rw [HG.out]; exact HD.out⟩⟩
  · have e1 : ((code.length : Int) == (T.length : Int)) = false := by simp; omega
    have E : Hid (lookB (vecs T) code = false) := Lib.hid (lookB_len (by rw [HL.out]; exact hne))
    clear hne
    go_enter Try.func84, Try.ntmps84
    go_wp2
    go_ret2
    exact ⟨Below.refl _ _, .inl ⟨E.out, rfl⟩⟩
set_option maxRecDepth 100000 in
set_option maxHeartbeats 1000000 in
theorem look_spec : PqLookSpec := by
  intro A c T B d code w hx hy
  have HN := Lib.hid (named64_any A c T B d code w hx hy)
  have HL := Lib.hid (vecs_len T)
  have hlen := hx.len
  clear hx hy
  go_enter Try.func25, Try.ntmps25
  go_wp2_with fail
  refine HN.out.mono ?_
  rintro e w1 ⟨hb, ⟨hF, rfl⟩ | ⟨hT, g, rfl, ho⟩⟩
  · have HA := Lib.hid (lookA_no hF)
    have HF := Lib.hid hF
    have HB := Lib.hid hb
    clear hF hb HN
    dsimp only
    go_wp2
    go_ret2
    exact ⟨ret2 HA.out.symm (by rw [HF.out]; rfl), HB.out⟩
  · have HA := Lib.hid ((lookA_yes hT).trans (by rw [HL.out]))
    have HT := Lib.hid hT
    have HB := Lib.hid hb
    have HO := Lib.hid ho
    clear hT hb HN ho
    dsimp only
    go_wp2
    go_loop [8, 21] (fun s i => ∃ k : Nat, k ≤ T.length ∧ i = .int .i64 k ∧ s = .int .i64 (lookK (vecs T) code k)) (fun _ i => T.length - (intOf i).toNat)
    case atStart => exact ⟨0, by omega, rfl, rfl⟩
    case round =>
      obtain ⟨k, hk, rfl, rfl⟩ := hrel
      by_cases hlt : k < T.length
      · have eL : decide ((k : Int) < (T.length : Int)) = true := decide_eq_true (by omega)
        have g1 : (0 : Int) ≤ (k : Int) := by omega
        have g2 : (k : Int) < (T.length : Int) := by omega
        obtain ⟨y, hy⟩ : ∃ y, (tAt (vecs T) k)[cAt code k]?.getD 0 = y := ⟨_, rfl⟩
        have ck : w1.cell? ⟨g, k, none⟩ = some (.int .i64 y) := by
          have := HO.out.cellAt k (by rw [Nat.mul_one]; exact hlt)
          rw [this, List.getElem?_map, valK_at hlt, hy]
          rfl
        have ES : Hid (lookK (vecs T) code (k + 1) = wrap64 (lookK (vecs T) code k + y)) := Lib.hid (by rw [← hy]; rfl)
        obtain ⟨s0, es0⟩ : ∃ s0, lookK (vecs T) code k = s0 := ⟨_, rfl⟩
        rw [es0] at ES ⊢
        clear es0 hy
        go_wp2
        go_round
        case rel => exact ⟨k + 1, by omega, by go_num, by rw [ES.out]⟩
        case measure => simp [intOf]; omega
      · obtain rfl : k = T.length := by omega
        have eL : decide ((T.length : Int) < (T.length : Int)) = false := decide_eq_false (by omega)
        go_wp2
        go_ret2
        exact ⟨ret2 HA.out.symm (by rw [HT.out]; rfl), HB.out⟩
end Go.Proofs.Ythbimjkcpmffcaa
