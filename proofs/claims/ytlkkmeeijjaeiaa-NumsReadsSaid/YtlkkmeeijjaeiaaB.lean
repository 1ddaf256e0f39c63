/- The walks of layer 1 (nums) that read numbers: sizeOf, join, first, the reader's closure, Get. -/
import Derived.Test.YtlkkmeeijjaeiaaProg
import Derived.Test.YtlkkmeeijjaeiaaA
import Derived.WalkKit
import Derived.WalkSpells
import Derived.WalkLawsBesides
import Derived.Below
import Derived.Lib.Hide
import Derived.Deep.QuietTactic
import Derived.BigQuiet
namespace Go.Proofs.Ytlkkmeeijjaeiaa
open Go.RowKit
set_option linter.unusedVariables false

set_option maxHeartbeats 400000 in
theorem sizeOf_any (A : Option Addr) (c : Nat) (xs : List Int) (w : World) (B : Nat) (hx : Rd .u8 w B A xs) (hc : xs.length ≤ c) (hm : c ≤ 9223372036854775807 ∧ xs.length ≤ 140737488355328) :
    Calls Try.prog 109 #[.slice A xs.length c] w fun e w' => e = .returned (.tuple #[.int .i64 (szN xs), .int .i64 (szE xs)]) ∧ w = w' := by
  by_cases h9 : xs.length < 9
  all_goals
    go_enter Try.func109, Try.ntmps109
    go_wp2
    all_goals
      go_loop [12] (fun i => ∃ k : Nat, k ≤ xs.length ∧ k ≤ 9 ∧ i = .int .i64 k ∧ k ≤ lead xs) (fun i => 9 - (intOf i).toNat)
      case atStart => exact ⟨0, by omega, by omega, rfl, by omega⟩
      case round =>
        obtain ⟨k, hk, hk9, rfl, hl⟩ := hrel
        by_cases hlt : k < xs.length ∧ k < 9
        · obtain ⟨hlt, hlt9⟩ := hlt
          obtain ⟨b, off, v, rfl, hB, hck, hv⟩ := hx.at_ hlt
          go_wp2
          · have hs := lead_stop xs k hl hlt (by rw [hv.out]; assumption)
            obtain ⟨e1, e2⟩ := sz_stop xs k hs hlt9 hlt
            go_ret2
            exact ⟨ret2 e1.symm e2.symm, rfl⟩
          · go_round
            case rel => exact ⟨k + 1, by omega, by omega, by go_num, lead_step xs k hl hlt (by rw [hv.out]; omega)⟩
            case measure => simp [intOf]; omega
        · have hle := lead_le xs
          go_wp2
          go_ret2
          first
            | (obtain ⟨e1, e2⟩ := sz_short xs h9 (by omega); exact ⟨ret2 e1.symm e2.symm, rfl⟩)
            | (obtain ⟨e1, e2⟩ := sz_long xs (by omega); exact ⟨ret2 e1.symm e2.symm, rfl⟩)

set_option maxHeartbeats 400000 in
theorem join_any (A : Option Addr) (c : Nat) (xs : List Int) (n : Nat) (hn : n = xs.length) (w : World) (B : Nat) (hx : Rd .u8 w B A xs) (hb : ∀ x ∈ xs, 0 ≤ x ∧ x ≤ 255) (h9 : xs.length ≤ 9) (hc : xs.length ≤ c) :
    Calls Try.prog 110 #[.slice A n c] w fun e w' => e = .returned (.int .u64 (val xs)) ∧ w = w' := by
  subst hn
  go_enter Try.func110, Try.ntmps110
  go_wp2
  go_loop [3, 8] (fun n i => ∃ k : Nat, k ≤ xs.length ∧ i = .int .i64 k ∧ n = .int .u64 (val (xs.take k))) (fun _ i => 9 - (intOf i).toNat)
  case atStart => exact ⟨0, by omega, rfl, rfl⟩
  case round =>
    obtain ⟨k, hk, rfl, rfl⟩ := hrel
    by_cases hlt : k < xs.length
    · obtain ⟨b, off, v, rfl, hB, hck, hv⟩ := hx.at_ hlt
      have hvb : 0 ≤ v ∧ v ≤ 255 := by
        rw [← hv.out, List.getElem?_eq_getElem hlt]; exact hb _ (List.getElem_mem _)
      have hbd := val_bd (xs.take k)
      rw [List.length_take, Nat.min_eq_left hk] at hbd
      obtain ⟨n, hn⟩ : ∃ n, val (xs.take k) = n := ⟨_, rfl⟩
      have HS := Lib.hid (val_take xs k v hlt hv.out)
      rw [hn] at HS hbd ⊢
      have hn' := Lib.hid hn
      have HB := Lib.hid hbd
      clear hn hbd
      go_wp2
      go_round
      case rel => exact ⟨k + 1, by omega, by go_num, by rw [HS.out, or_step n v k (by omega) HB.out.1 HB.out.2 hvb.1]⟩
      case measure => simp [intOf]; omega
    · go_wp2
      go_ret
      exact ⟨ret1 (by rw [List.take_of_length_le (by omega)]), rfl⟩
/-- 'first' where sizeOf refuses. -/
theorem first_no (A : Option Addr) (c n : Nat) (w : World) (x s : Int) (hx : (x == 0) = false) (hsz : Calls Try.prog 109 #[.slice A n c] w fun e w' => e = .returned (.tuple #[.int .i64 s, .int .i64 x]) ∧ w = w') :
    Calls Try.prog 106 #[.slice A n c] w fun e w' => e = .returned (.tuple #[.int .u64 0, .int .i64 0, .int .i64 x]) ∧ w = w' := by
  have HS := Lib.hid hsz
  clear hsz
  go_enter Try.func106, Try.ntmps106
  go_wp2_with (go_at_call 109; refine HS.out.mono ?_; rintro e w' ⟨rfl, rfl⟩)
  go_ret3
  exact ⟨rfl, rfl⟩
/-- 'first' where sizeOf finds k + 1 bytes, the last of them v, and they tell V. -/
def firstE (k : Nat) (v V : Int) : Int := if (0 < k ∧ v = 0) ∨ maxNum < V then 5 else 0
set_option maxHeartbeats 400000 in
theorem first_yes (b off : Nat) (c n k : Nat) (v V : Int) (w : World) (hk : k < n) (hn : n ≤ c) (hm : c ≤ 9223372036854775807 ∧ n ≤ 140737488355328) (h0 : 0 ≤ V) (hV : V < 9223372036854775808) (hv : 0 ≤ v ∧ v ≤ 255)
    (hck : w.cell? ⟨b, off + k, none⟩ = some (.int .u8 v))
    (hsz : Calls Try.prog 109 #[.slice (some ⟨b, off, none⟩) n c] w fun e w' => e = .returned (.tuple #[.int .i64 (k + 1), .int .i64 0]) ∧ w = w')
    (hj : Calls Try.prog 110 #[.slice (some ⟨b, off, none⟩) (k + 1) c] w fun e w' => e = .returned (.int .u64 V) ∧ w = w') :
    Calls Try.prog 106 #[.slice (some ⟨b, off, none⟩) n c] w fun e w' =>
      e = .returned (.tuple #[.int .u64 (if firstE k v V = 0 then V else 0), .int .i64 (if firstE k v V = 0 then (k + 1 : Nat) else 0), .int .i64 (firstE k v V)]) ∧ w = w' := by
  have HS := Lib.hid hsz
  have HJ := Lib.hid hj
  clear hsz hj
  by_cases h1 : 0 < k ∧ v = 0
  · have e : firstE k v V = 5 := by unfold firstE; rw [if_pos (.inl h1)]
    rw [e]
    clear e
    obtain ⟨h1, rfl⟩ := h1
    go_enter Try.func106, Try.ntmps106
    go_wp2_with (first | (go_at_call 109; refine HS.out.mono ?_; rintro e w' ⟨rfl, rfl⟩))
    go_ret3
    exact ⟨rfl, rfl⟩
  · by_cases h2 : maxNum < V
    · have e : firstE k v V = 5 := by unfold firstE; rw [if_pos (.inr h2)]
      rw [e]
      clear e
      unfold maxNum at h2
      by_cases hk0 : 0 < k
      · have hv0 : (v == 0) = false := by simp; omega
        go_enter Try.func106, Try.ntmps106
        go_wp2_with (first | (go_at_call 109; refine HS.out.mono ?_; rintro e w' ⟨rfl, rfl⟩) | (go_at_call 110; refine HJ.out.mono ?_; rintro e w' ⟨rfl, rfl⟩))
        go_ret3
        exact ⟨rfl, rfl⟩
      · obtain rfl : k = 0 := by omega
        go_enter Try.func106, Try.ntmps106
        go_wp2_with (first | (go_at_call 109; refine HS.out.mono ?_; rintro e w' ⟨rfl, rfl⟩) | (go_at_call 110; refine HJ.out.mono ?_; rintro e w' ⟨rfl, rfl⟩))
        go_ret3
        exact ⟨rfl, rfl⟩
    · have e : firstE k v V = 0 := by unfold firstE; rw [if_neg (by omega)]
      rw [e]
      clear e
      simp only [if_pos]
      unfold maxNum at h2
      by_cases hk0 : 0 < k
      · have hv0 : (v == 0) = false := by simp; omega
        go_enter Try.func106, Try.ntmps106
        go_wp2_with (first | (go_at_call 109; refine HS.out.mono ?_; rintro e w' ⟨rfl, rfl⟩) | (go_at_call 110; refine HJ.out.mono ?_; rintro e w' ⟨rfl, rfl⟩))
        go_ret3
        exact ⟨rfl, rfl⟩
      · obtain rfl : k = 0 := by omega
        go_enter Try.func106, Try.ntmps106
        go_wp2_with (first | (go_at_call 109; refine HS.out.mono ?_; rintro e w' ⟨rfl, rfl⟩) | (go_at_call 110; refine HJ.out.mono ?_; rintro e w' ⟨rfl, rfl⟩))
        go_ret3
        exact ⟨rfl, rfl⟩

theorem first_any (A : Option Addr) (c : Nat) (xs : List Int) (n : Nat) (hn : n = xs.length) (w : World) (B : Nat) (hx : Rd .u8 w B A xs) (hb : ∀ x ∈ xs, 0 ≤ x ∧ x ≤ 255) (hc : xs.length ≤ c) (hm : c ≤ 9223372036854775807 ∧ xs.length ≤ 140737488355328) :
    Calls Try.prog 106 #[.slice A n c] w fun e w' => e = .returned (.tuple #[.int .u64 (getN xs), .int .i64 (getK xs), .int .i64 (getE xs)]) ∧ w = w' := by
  subst hn
  have hsz := sizeOf_any A c xs w B hx hc hm
  rcases szE_cases xs with h | h | ⟨h, h9, hl, hN⟩
  · have hg := get_sz (xs := xs) (by omega)
    obtain ⟨g1, g2⟩ := get_bad (xs := xs) (by omega)
    rw [g1, g2, hg]
    exact first_no A c xs.length w _ _ (by rw [h]; rfl) hsz
  · have hg := get_sz (xs := xs) (by omega)
    obtain ⟨g1, g2⟩ := get_bad (xs := xs) (by omega)
    rw [g1, g2, hg]
    exact first_no A c xs.length w _ _ (by rw [h]; rfl) hsz
  · rw [h, hN] at hsz
    have hj := join_any A c (xs.take (lead xs + 1)) (lead xs + 1) (by rw [List.length_take]; omega) w B (hx.take _) (fun x hx => hb x (List.mem_of_mem_take hx)) (by rw [List.length_take]; omega) (by rw [List.length_take]; omega)
    obtain ⟨b, off, v, rfl, hB, hck, hv⟩ := hx.at_ hl
    have hvb : 0 ≤ v ∧ v ≤ 255 := by
      rw [← hv.out, List.getElem?_eq_getElem hl]; exact hb _ (List.getElem_mem _)
    have hbd := val_bd (xs.take (lead xs + 1))
    have hbdl : val (xs.take (lead xs + 1)) < 9223372036854775808 := by
      refine Int.lt_of_lt_of_le hbd.2 ?_
      have : (128 : Nat) ^ (xs.take (lead xs + 1)).length ≤ 128 ^ 9 := Nat.pow_le_pow_right (by omega) (by rw [List.length_take]; omega)
      have h2 : ((128 : Nat) ^ (xs.take (lead xs + 1)).length : Int) ≤ (128 ^ 9 : Nat) := by exact_mod_cast this
      exact h2
    have hE : firstE (lead xs) v (val (xs.take (lead xs + 1))) = getE xs := by
      unfold firstE getE; rw [if_neg (by omega : ¬ szE xs ≠ 0), hv.out]
    refine (first_yes b off c xs.length (lead xs) v (val (xs.take (lead xs + 1))) w hl hc hm hbd.1 hbdl hvb hck hsz hj).mono ?_
    rintro e w' ⟨he, hw⟩
    refine ⟨he.trans ?_, hw⟩
    rw [hE]
    exact ret3 rfl (by unfold getK; split <;> simp) rfl
set_option maxHeartbeats 400000 in
theorem reader1_no (A : Option Addr) (n c p q place : Nat) (w : World) (gn gk ge : Int) (hge : (ge == 0) = false) (hn : n ≤ c) (hm : c ≤ 9223372036854775807 ∧ n ≤ 140737488355328) (hpl : place ≤ n)
    (hp : w.cell? ⟨p, 0, none⟩ = some (.slice A n c)) (hq : w.cell? ⟨q, 0, none⟩ = some (.int .i64 place)) (hf : w.frozen? ⟨q, 0, none⟩ = false)
    (h1 : Calls Try.prog 106 #[.slice (if c = place then A else A.map (·.add place)) (n - place) (c - place)] w fun e w' => e = .returned (.tuple #[.int .u64 gn, .int .i64 gk, .int .i64 ge]) ∧ w = w') :
    Calls Try.prog 105 #[.pointer (some ⟨p, 0, none⟩), .pointer (some ⟨q, 0, none⟩)] w fun e w' => e = .returned (.tuple #[.int .u64 0, .int .i64 0, .int .i64 ge]) ∧ w = w' := by
  by_cases hcp : c = place
  · obtain rfl : n = c := by omega
    subst hcp
    rw [if_pos rfl, Nat.sub_self] at h1
    have H := Lib.hid h1
    clear h1
    go_enter Try.func105, Try.ntmps105
    go_wp2_with (go_at_call 106; refine H.out.mono ?_; rintro e w' ⟨rfl, rfl⟩)
    go_ret3
    exact ⟨rfl, rfl⟩
  · rw [if_neg hcp] at h1
    have H := Lib.hid h1
    clear h1
    go_enter Try.func105, Try.ntmps105
    go_wp2_with (go_at_call 106; refine H.out.mono ?_; rintro e w' ⟨rfl, rfl⟩)
    go_ret3
    exact ⟨rfl, rfl⟩
set_option maxHeartbeats 400000 in
theorem reader1_yes (A : Option Addr) (n c p q place : Nat) (w : World) (gn : Int) (gk : Nat) (hgk : gk ≤ 9) (hn : n ≤ c) (hm : c ≤ 9223372036854775807 ∧ n ≤ 140737488355328) (hpl : place ≤ n)
    (hp : w.cell? ⟨p, 0, none⟩ = some (.slice A n c)) (hq : w.cell? ⟨q, 0, none⟩ = some (.int .i64 place)) (hf : w.frozen? ⟨q, 0, none⟩ = false)
    (h1 : Calls Try.prog 106 #[.slice (if c = place then A else A.map (·.add place)) (n - place) (c - place)] w fun e w' => e = .returned (.tuple #[.int .u64 gn, .int .i64 gk, .int .i64 0]) ∧ w = w') :
    Calls Try.prog 105 #[.pointer (some ⟨p, 0, none⟩), .pointer (some ⟨q, 0, none⟩)] w fun e w' => e = .returned (.tuple #[.int .u64 gn, .int .i64 ((place : Int) + gk), .int .i64 0]) ∧ ∃ nq, w' = (w.setCell ⟨q, 0, none⟩ (.int .i64 ((place : Int) + gk))).drewN nq := by
  by_cases hcp : c = place
  · obtain rfl : n = c := by omega
    subst hcp
    rw [if_pos rfl, Nat.sub_self] at h1
    have H := Lib.hid h1
    clear h1
    go_enter Try.func105, Try.ntmps105
    go_wp2_with (go_at_call 106; refine H.out.mono ?_; rintro e w' ⟨rfl, rfl⟩)
    go_quiet (fail)
    go_wp2
    go_ret3
    exact ⟨rfl, _, rfl⟩
  · rw [if_neg hcp] at h1
    have H := Lib.hid h1
    clear h1
    go_enter Try.func105, Try.ntmps105
    go_wp2_with (go_at_call 106; refine H.out.mono ?_; rintro e w' ⟨rfl, rfl⟩)
    go_quiet (fail)
    go_wp2
    go_ret3
    exact ⟨rfl, _, rfl⟩

theorem byte_drop {xs : List Int} (hb : ∀ x ∈ xs, 0 ≤ x ∧ x ≤ 255) (n : Nat) : ∀ x ∈ xs.drop n, 0 ≤ x ∧ x ≤ 255 := fun x hx => hb x (List.mem_of_mem_drop hx)
theorem byte_take {xs : List Int} (hb : ∀ x ∈ xs, 0 ≤ x ∧ x ≤ 255) (n : Nat) : ∀ x ∈ xs.take n, 0 ≤ x ∧ x ≤ 255 := fun x hx => hb x (List.mem_of_mem_take hx)
/-- What the reader's closure answers, and what it leaves: the place behind the number. -/
theorem reader1_any (A : Option Addr) (c : Nat) (xs : List Int) (p q place : Nat) (w : World) (B : Nat) (hx : Rd .u8 w B A xs) (hb : ∀ x ∈ xs, 0 ≤ x ∧ x ≤ 255) (hc : xs.length ≤ c) (hm : c ≤ 9223372036854775807 ∧ xs.length ≤ 140737488355328)
    (hp : w.cell? ⟨p, 0, none⟩ = some (.slice A xs.length c)) (hq : w.cell? ⟨q, 0, none⟩ = some (.int .i64 place)) (hf : w.frozen? ⟨q, 0, none⟩ = false) (hpl : place ≤ xs.length) :
    (getE (xs.drop place) ≠ 0 → Calls Try.prog 105 #[.pointer (some ⟨p, 0, none⟩), .pointer (some ⟨q, 0, none⟩)] w fun e w' => e = .returned (.tuple #[.int .u64 0, .int .i64 0, .int .i64 (getE (xs.drop place))]) ∧ w = w') ∧
    (getE (xs.drop place) = 0 → Calls Try.prog 105 #[.pointer (some ⟨p, 0, none⟩), .pointer (some ⟨q, 0, none⟩)] w fun e w' => e = .returned (.tuple #[.int .u64 (getN (xs.drop place)), .int .i64 (place + getK (xs.drop place)), .int .i64 0]) ∧ ∃ nq, w' = (w.setCell ⟨q, 0, none⟩ (.int .i64 (place + getK (xs.drop place)))).drewN nq) := by
  have h1 := first_any (if c = place then A else A.map (·.add place)) (c - place) (xs.drop place) (xs.length - place) (by rw [List.length_drop]) w B (hx.drop hc) (byte_drop hb _) (by rw [List.length_drop]; omega) (by rw [List.length_drop]; omega)
  constructor
  · intro hE
    exact reader1_no A xs.length c p q place w _ _ _ (by simpa using hE) hc hm hpl hp hq hf h1
  · intro hE
    obtain ⟨h9, hl⟩ : lead (xs.drop place) < 9 ∧ getK (xs.drop place) = ((lead (xs.drop place) + 1 : Nat) : Int) := by
      refine ⟨?_, by unfold getK; rw [if_pos hE]; push_cast; rfl⟩
      rcases szE_cases (xs.drop place) with h | h | ⟨h, h9, _⟩
      · have := get_sz (xs := xs.drop place) (by omega); omega
      · have := get_sz (xs := xs.drop place) (by omega); omega
      · exact h9
    rw [hE] at h1
    rw [hl] at h1 ⊢
    exact reader1_yes A xs.length c p q place w _ _ (by omega) hc hm hpl hp hq hf h1
/-- The two boxes that a reader makes. -/
def boxed (w : World) (A : Option Addr) (n c : Nat) : World := (w.alloc (.cells #[.slice A n c] 23)).alloc (.cells #[.int .i64 0] 3)
theorem reader_any (A : Option Addr) (n c : Nat) (w : World) :
    Calls Try.prog 73 #[.slice A n c] w fun e w' => e = .returned (.func (.func 105) #[] #[.pointer (some ⟨w.heap.size, 0, none⟩), .pointer (some ⟨w.heap.size + 1, 0, none⟩)]) ∧ boxed w A n c = w' := by
  go_enter Try.func73, Try.ntmps73
  go_wp2
  go_ret
  exact ⟨rfl, rfl⟩
theorem boxed_cells (w : World) (A : Option Addr) (n c : Nat) : (boxed w A n c).cell? ⟨w.heap.size, 0, none⟩ = some (.slice A n c) ∧ (boxed w A n c).cell? ⟨w.heap.size + 1, 0, none⟩ = some (.int .i64 ((0 : Nat) : Int)) ∧
    (boxed w A n c).frozen? ⟨w.heap.size + 1, 0, none⟩ = false ∧ Below w.heap.size w (boxed w A n c) ∧ (boxed w A n c).heap.size = w.heap.size + 2 := by
  refine ⟨?_, ?_, ?_, ((Below.refl _ _).alloc (Nat.le_refl _) _).alloc (by simp) _, by simp [boxed]⟩
  · unfold boxed; simp [go_sem]
  · unfold boxed; simp [go_sem]
  · unfold boxed; simp [go_sem]
set_option maxHeartbeats 400000 in
theorem get_any (A : Option Addr) (c : Nat) (xs : List Int) (n : Nat) (hn : n = xs.length) (w : World) (B : Nat) (hx : Rd .u8 w B A xs) (hB : B ≤ w.heap.size) (hb : ∀ x ∈ xs, 0 ≤ x ∧ x ≤ 255) (hc : xs.length ≤ c) (hm : c ≤ 9223372036854775807 ∧ xs.length ≤ 140737488355328) :
    Calls Try.prog 23 #[.slice A n c] w fun e w' => e = .returned (.tuple #[.int .u64 (getN xs), .int .i64 (getK xs), .int .i64 (getE xs)]) ∧ Below w.heap.size w w' := by
  subst hn
  obtain ⟨hp, hq, hf, hbel, hsz⟩ := boxed_cells w A xs.length c
  have hr := reader_any A xs.length c w
  obtain ⟨g1, g2⟩ := reader1_any A c xs w.heap.size (w.heap.size + 1) 0 (boxed w A xs.length c) B (hx.below (hbel.mono hB)) hb hc hm hp hq hf (by omega)
  simp only [List.drop_zero] at g1 g2
  generalize boxed w A xs.length c = W at *
  have HR := Lib.hid hr
  clear hr hp hq hf hsz hx
  by_cases hE : getE xs = 0
  · have G := Lib.hid (g2 hE)
    rw [hE]
    clear g1 g2 hE
    go_enter Try.func23, Try.ntmps23
    go_wp2_with (first | (go_at_call 73; refine HR.out.mono ?_; rintro e w' ⟨rfl, rfl⟩) | (go_at_call 105; refine G.out.mono ?_; rintro e w' ⟨rfl, nq, rfl⟩))
    go_ret3
    exact ⟨rfl, below_drewN (hbel.setCell (p := ⟨w.heap.size + 1, 0, none⟩) (by simp) _) nq⟩
  · obtain ⟨z1, z2⟩ := get_bad hE
    have G := Lib.hid (g1 hE)
    rw [z1, z2]
    clear g1 g2 hE z1 z2
    go_enter Try.func23, Try.ntmps23
    go_wp2_with (first | (go_at_call 73; refine HR.out.mono ?_; rintro e w' ⟨rfl, rfl⟩) | (go_at_call 105; refine G.out.mono ?_; rintro e w' ⟨rfl, rfl⟩))
    go_ret3
    exact ⟨rfl, hbel⟩
end Go.Proofs.Ytlkkmeeijjaeiaa
