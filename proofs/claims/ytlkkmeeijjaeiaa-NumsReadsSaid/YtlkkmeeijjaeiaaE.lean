/- The walks of layer 1 (nums), more: Fold, Unfold, isDim, PutItem; SameBytes of the statements. -/
import Derived.Test.YtlkkmeeijjaeiaaP
import Derived.Test.YtlkkmeeijjaeiaaD
namespace Go.Proofs.Ytlkkmeeijjaeiaa
open Go.RowKit
set_option linter.unusedVariables false

def foldS (n : Int) : Int := if 0 ≤ n then 2 * n else -2 * n - 1
def unfoldS (n : Int) : Int := if n % 2 = 0 then n / 2 else -(n / 2) - 1
set_option maxHeartbeats 400000 in
theorem fold_any (n : Int) (h : -9223372036854775808 ≤ n ∧ n ≤ 9223372036854775807) (w : World) :
    Calls Try.prog 15 #[.int .i64 n] w fun e w' => e = .returned (.int .u64 (foldS n)) ∧ w = w' := by
  obtain ⟨h1, h2⟩ := h
  by_cases h0 : 0 ≤ n
  · have e : foldS n = 2 * n := by unfold foldS; rw [if_pos h0]
    rw [e]; clear e
    go_enter Try.func15, Try.ntmps15
    go_wp2
    go_ret
    exact ⟨rfl, rfl⟩
  · have e : foldS n = 2 * -(n + 1) + 1 := by unfold foldS; rw [if_neg h0]; omega
    rw [e]; clear e
    go_enter Try.func15, Try.ntmps15
    go_wp2
    go_ret
    exact ⟨rfl, rfl⟩
set_option maxHeartbeats 400000 in
theorem unfold_any (n : Int) (h : 0 ≤ n ∧ n ≤ 18446744073709551615) (w : World) :
    Calls Try.prog 17 #[.int .u64 n] w fun e w' => e = .returned (.int .i64 (unfoldS n)) ∧ w = w' := by
  obtain ⟨h1, h2⟩ := h
  by_cases h0 : n % 2 = 0
  · have e : unfoldS n = n / 2 := by unfold unfoldS; rw [if_pos h0]
    rw [e]; clear e
    have h0' : ((n % 2) == 0) = true := by simpa using h0
    clear h0
    go_enter Try.func17, Try.ntmps17
    go_wp2
    go_ret
    exact ⟨rfl, rfl⟩
  · have e : unfoldS n = -(n / 2) - 1 := by unfold unfoldS; rw [if_neg h0]
    rw [e]; clear e
    have h0' : ((n % 2) == 0) = false := by simpa using h0
    clear h0
    go_enter Try.func17, Try.ntmps17
    go_wp2
    go_ret
    exact ⟨rfl, rfl⟩
def isDimB (n : Int) : Bool := decide (1 ≤ n ∧ n ≤ 64)
theorem isDim_any (n : Int) (w : World) : Calls Try.prog 75 #[.int .u64 n] w fun e w' => e = .returned (.bool (isDimB n)) ∧ w = w' := by
  by_cases h1 : 1 ≤ n
  · by_cases h2 : n ≤ 64
    · have e : isDimB n = true := by unfold isDimB; simp; omega
      rw [e]; clear e
      go_enter Try.func75, Try.ntmps75
      go_wp2
      go_ret
      exact ⟨rfl, rfl⟩
    · have e : isDimB n = false := by unfold isDimB; simp; omega
      rw [e]; clear e
      go_enter Try.func75, Try.ntmps75
      go_wp2
      go_ret
      exact ⟨rfl, rfl⟩
  · have e : isDimB n = false := by unfold isDimB; simp; omega
    rw [e]; clear e
    go_enter Try.func75, Try.ntmps75
    go_wp2
    go_ret
    exact ⟨rfl, rfl⟩
set_option maxHeartbeats 400000 in
/-- SameBytes of two slices that read alike. -/
theorem sameBytes_any (T A : Option Addr) (tc c : Nat) (xs : List Int) (n m : Nat) (hn : n = xs.length) (hm : m = xs.length) (w : World) (B : Nat) (hx : Rd .u8 w B A xs) (ht : Rd .u8 w B T xs) (hl : xs.length ≤ 140737488355328) :
    Calls Try.prog 14 #[.slice T n tc, .slice A m c] w fun e w' => e = .returned (.bool true) ∧ ∃ nq, w' = w.drewN nq := by
  subst hn hm
  go_enter Try.func14, Try.ntmps14
  go_wp2
  go_loopw [5] (fun i wr => ∃ k nq : Nat, k ≤ xs.length ∧ i = .int .i64 k ∧ wr = w.drewN nq) (fun i _ => xs.length - (intOf i).toNat)
  case atStart => exact ⟨0, 0, by omega, rfl, rfl⟩
  case round =>
    obtain ⟨k, nq, hk, rfl, rfl⟩ := hrel
    by_cases hlt : k < xs.length
    · obtain ⟨b, off, v, rfl, hBb, hck, hv⟩ := hx.at_ hlt
      obtain ⟨tb, toff, v', rfl, _, htck, hv'⟩ := ht.at_ hlt
      have e : v' = v := by rw [← hv.out, ← hv'.out]
      subst e
      clear hv hv'
      have h1 : (0 : Int) ≤ (k : Int) := by omega
      have h2 : (k : Int) < (xs.length : Int) := by omega
      go_wp2
      go_quiet (fail)
      go_wp2
      go_roundw
      case rel => exact ⟨k + 1, _, by omega, by go_num, rfl⟩
      case measure => simp [intOf]; omega
    · obtain rfl : k = xs.length := by omega
      go_wp2
      go_ret
      exact ⟨rfl, _, rfl⟩
theorem owns_base {w : World} {b b' e size n : Nat} {v : Value} {xs : List Value} (h : w.ownsRow b e size v n xs) (hb : b' ≤ b) : w.ownsRow b' e size v n xs := by
  refine ⟨h.1, ?_⟩
  rcases h.2 with h1 | ⟨g, cap, cur, h1, h2, r⟩
  · exact .inl h1
  · exact .inr ⟨g, cap, cur, h1, by omega, r⟩
/-- The bytes of an item. -/
def putItemL (id : Nat) (vs : List Int) : List Int := putL id ++ putL vs.length ++ vs.map (· % 256)
def PutItemYes (w : World) (id : Nat) (vs : List Int) (e : Ending) (w' : World) : Prop :=
  ∃ g cap, e = .returned (.tuple #[.slice (some ⟨g, 0, none⟩) (putItemL id vs).length cap, .int .i64 0]) ∧ w'.ownsRow w.heap.size 5 1 (.slice (some ⟨g, 0, none⟩) (putItemL id vs).length cap) (putItemL id vs).length ((putItemL id vs).map (Value.int .u8)) ∧ Below w.heap.size w w'
set_option maxHeartbeats 400000 in
theorem putItem_no (id : Int) (V : Option Addr) (n c : Nat) (w : World) (h : 4611686018427387903 < id ∨ isDimB n = false) (hid : 0 ≤ id) (hn : n ≤ 140737488355328) :
    Calls Try.prog 27 #[.agg #[.int .u64 id, .slice V n c]] w fun e w' => e = .returned (.tuple #[.slice none 0 0, .int .i64 1]) ∧ Below w.heap.size w w' := by
  have H := Lib.hid (isDim_any n (w.alloc (.cells #[.int .u64 id, .slice V n c] 54)))
  by_cases h1 : 4611686018427387903 < id
  · clear h
    go_enter Try.func27, Try.ntmps27
    go_wp2_with fail
    go_ret2
    exact ⟨rfl, (Below.refl _ _).alloc (Nat.le_refl _) _⟩
  · have h2 : isDimB n = false := by rcases h with h | h; · omega
                                     · exact h
    rw [h2] at H
    clear h h2
    go_enter Try.func27, Try.ntmps27
    go_wp2_with (go_at_call 75; refine H.out.mono ?_; rintro e w' ⟨rfl, rfl⟩)
    go_ret2
    exact ⟨rfl, (Below.refl _ _).alloc (Nat.le_refl _) _⟩

theorem slice_of_own {w : World} {b e size n : Nat} {v : Value} {xs : List Value} (h : w.ownsRow b e size v n xs) (hn : 0 < n) : ∃ g cap, v = .slice (some ⟨g, 0, none⟩) n cap := by
  rcases h.2 with ⟨_, h0⟩ | ⟨g, cap, cur, h1, _⟩
  · omega
  · exact ⟨g, cap, h1⟩
theorem item_take (id : Nat) (vs : List Int) (k : Nat) (v : Int) (hk : k < vs.length) (hv : vs[k]?.getD 0 = v) :
    (putL id ++ putL vs.length ++ (vs.take (k + 1)).map (· % 256)).map (Value.int .u8) = (putL id ++ putL vs.length ++ (vs.take k).map (· % 256)).map (Value.int .u8) ++ [.int .u8 (v % 256)] := by
  rw [List.take_succ_eq_append_getElem hk, ← hv, List.getElem?_eq_getElem hk]
  simp only [List.map_append, List.append_assoc, Option.getD_some, List.map_cons, List.map_nil]
set_option maxRecDepth 100000 in
set_option maxHeartbeats 1000000 in
theorem putItem_yes (id : Nat) (V : Option Addr) (vs : List Int) (n c : Nat) (hn : n = vs.length) (w : World) (hid : id ≤ 4611686018427387903) (h1 : 1 ≤ vs.length) (h64 : vs.length ≤ 64) (hx : Rd .i8 w w.heap.size V vs) (hb : ∀ x ∈ vs, -128 ≤ x ∧ x ≤ 127) :
    Calls Try.prog 27 #[.agg #[.int .u64 id, .slice V n c]] w (PutItemYes w id vs) := by
  subst hn
  obtain ⟨i0, hi, hz0, hz1, hz2⟩ := info_parts Try.info5p
  obtain ⟨w0, hw0⟩ : ∃ w0, w.alloc (.cells #[.int .u64 id, .slice V vs.length c] 54) = w0 := ⟨_, rfl⟩
  have hB0 : Below w.heap.size w w0 := by rw [← hw0]; exact (Below.refl _ _).alloc (Nat.le_refl _) _
  have hs0 : w.heap.size + 1 = w0.heap.size := by rw [← hw0]; simp
  have hc0 : w0.cell? ⟨w.heap.size, 0, none⟩ = some (.int .u64 id) := by rw [← hw0]; simp [go_sem]
  have hc1 : w0.cell? ⟨w.heap.size, 1, none⟩ = some (.slice V vs.length c) := by rw [← hw0]; simp [go_sem]
  have HD : Hid (Calls Try.prog 75 #[.int .u64 (vs.length : Int)] w0 fun e w' => e = .returned (.bool true) ∧ w0 = w') := by
    have := isDim_any vs.length w0
    have e : isDimB vs.length = true := by unfold isDimB; simp; omega
    rw [e] at this
    exact this
  have HA := Lib.hid (appendNumber_any id hid w0 w0.heap.size 0 (.slice none 0 0) [] (Nat.le_refl _) (World.ownsRow_nil _ _ _ _) (by omega))
  have HS := Lib.hid hs0
  clear hs0
  have hid0 : ¬ 4611686018427387903 < ((id : Int)) := by omega
  have hidn : 0 ≤ ((id : Int)) := by omega
  have h9 := putL_len9 id hid
  clear hid
  generalize (id : Int) = I at *
  go_enter Try.func27, Try.ntmps27
  go_wp2_with fail
  refine HD.out.mono ?_
  rintro e w' ⟨rfl, rfl⟩
  clear hw0
  go_wp2_with fail
  refine HA.out.mono ?_
  rintro e w1 ⟨v1, rfl, hown1, hB1⟩
  clear HA HD hid0 hidn
  simp only [Nat.zero_add, List.nil_append] at hown1
  obtain ⟨g1, cap1, hv1⟩ := slice_of_own hown1 (putL_ne id)
  rw [hv1] at hown1 ⊢
  clear hv1
  have h92 := putL_len9 vs.length (by omega)
  have HC := Lib.hid (appendNumber_any vs.length (by omega) w1 w0.heap.size (putL id).length _ (putL id) hB1.size hown1 (by omega))
  clear hown1
  have hc1' : w1.cell? ⟨w.heap.size, 1, none⟩ = some (.slice V vs.length c) := (hB1.cell (p := ⟨w.heap.size, 1, none⟩) (by have := HS.out; show w.heap.size < w0.heap.size; omega)).trans hc1
  clear hc0 hc1
  go_wp2_with fail
  refine HC.out.mono ?_
  rintro e w2 ⟨v2, rfl, hown2, hB2⟩
  clear HC
  have hc2 : w2.cell? ⟨w.heap.size, 1, none⟩ = some (.slice V vs.length c) := (hB2.cell (p := ⟨w.heap.size, 1, none⟩) (by have := HS.out; show w.heap.size < w0.heap.size; omega)).trans hc1'
  clear hc1'
  obtain ⟨m, HM⟩ : ∃ m, Hid ((putL id).length + (putL vs.length).length = m) := ⟨_, rfl⟩
  have hm18 : m ≤ 18 := by have := HM.out; omega
  have hm1 : 0 < m := by have := HM.out; have := putL_ne id; omega
  rw [HM.out] at hown2
  obtain ⟨g2, cap2, hv2⟩ := slice_of_own hown2 hm1
  rw [hv2] at hown2 ⊢
  clear hv2
  have hBw : Below w0.heap.size w w2 → True := fun _ => trivial
  have hB2w : Below w.heap.size w w2 := hB0.trans ((hB1.trans hB2).mono (by have := HS.out; omega))
  have hx2 : Rd .i8 w2 w.heap.size V vs := hx.below hB2w
  have hsz1 := hB1.size
  clear hBw hB0 hB1
  go_wp2_with fail
  go_loopw [5, 29] (fun v i wr => ∃ k : Nat, k ≤ vs.length ∧ i = .int .i64 k ∧ (∃ g cap, v = .slice (some ⟨g, 0, none⟩) (m + k) cap) ∧
      wr.ownsRow w0.heap.size 5 1 v (m + k) ((putL id ++ putL vs.length ++ (vs.take k).map (· % 256)).map (Value.int .u8)) ∧ Below w0.heap.size w2 wr) (fun _ i _ => vs.length - (intOf i).toNat)
  case atStart => exact ⟨0, by omega, rfl, ⟨_, _, rfl⟩, by simpa using hown2, Below.refl _ _⟩
  case round =>
    clear hown2
    obtain ⟨k, hk, rfl, ⟨g, cap, rfl⟩, hown, hB⟩ := hrel
    have hsz := hB.size
    have hsz2 := hB2.size
    by_cases hlt : k < vs.length
    · obtain ⟨b, off, v, rfl, hBb, hck, hv⟩ := (hx2.below (hB.mono (by have := HS.out; omega))).at_ hlt
      have hvb : -128 ≤ v ∧ v ≤ 127 := by
        rw [← hv.out, List.getElem?_eq_getElem hlt]; exact hb _ (List.getElem_mem _)
      have HV := Lib.hid (item_take id vs k v hlt hv.out)
      go_wp2_with (at_builtin; refine wpList_append_own _ rfl (.tmp 33) (.tmp 36) 23 rfl w0.heap.size 5 i0 (.int .u8 0) 1 1 Try.underlying23 hi hz0 hz1 hz2 rfl (by decide) _ _ _ rfl (hown.alloc _) ⟨wr.heap.size, 0, none⟩ 1 1 [.int .u8 (v % 256)] rfl rfl (cell_one_new _ _ _) (by simp [Value.oneCell']) (by unfold maxLen; omega) (by omega) (by simp; omega) ?_; intro v' w3 hown' hgrow _; obtain ⟨g', cap', rfl⟩ := slice_of_own hown' (by omega))
      have hB3 : Below w0.heap.size w2 w3 := (hB.alloc (by omega) _).grown hgrow (by simp; omega) (fun j hj => (hown.lt j hj).1)
      go_wp2
      go_roundw
      case rel => exact ⟨k + 1, by omega, by go_num, ⟨g', cap', by rw [Nat.add_assoc]⟩, by rw [HV.out, ← Nat.add_assoc]; exact hown', hB3⟩
      case measure => simp [intOf]; omega
    · obtain rfl : k = vs.length := by omega
      rw [List.take_length] at hown
      have HL : Hid (m + vs.length = (putItemL id vs).length) := by
        have := HM.out
        show m + vs.length = _
        simp only [putItemL, List.length_append, List.length_map]
        omega
      go_wp2
      go_ret2
      rw [HL.out] at hown ⊢
      exact ⟨g, cap, rfl, owns_base hown (by have := HS.out; omega), hB2w.trans (hB.mono (by have := HS.out; omega))⟩
end Go.Proofs.Ytlkkmeeijjaeiaa
