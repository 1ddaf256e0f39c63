/- The walks of the statements' own helpers that layer 1 needs: Beyond, TwinBytes, LeftBytes. -/
import Derived.Test.YtlkkmeeijjaeiaaB
import Derived.Maps.AppendAt
namespace Go.Proofs.Ytlkkmeeijjaeiaa
open Go.RowKit
set_option linter.unusedVariables false
theorem retb {a b : Bool} (h : a = b) : Ending.returned (.bool a) = .returned (.bool b) := by rw [h]
/-- Beyond: are these sizes, taken together, more than 1048576? -/
def bey (xs : List Int) : Bool := decide (1048576 < xs.sum)
theorem sum_take (xs : List Int) (k : Nat) (v : Int) (hk : k < xs.length) (hv : xs[k]?.getD 0 = v) : (xs.take (k + 1)).sum = (xs.take k).sum + v := by
  rw [List.take_succ_eq_append_getElem hk, List.sum_append, ← hv, List.getElem?_eq_getElem hk]; simp
theorem sum_mono (xs : List Int) (h : ∀ x ∈ xs, 0 ≤ x) (k : Nat) : (xs.take k).sum ≤ xs.sum := by
  have e : xs.sum = (xs.take k).sum + (xs.drop k).sum := by rw [← List.sum_append, List.take_append_drop]
  have : ∀ l : List Int, (∀ x ∈ l, 0 ≤ x) → 0 ≤ l.sum := by
    intro l; induction l with
    | nil => simp
    | cons a l ih => intro hl; have := ih (fun x hx => hl x (by simp [hx])); have := hl a (by simp); simp; omega
  have := this (xs.drop k) (fun x hx => h x (List.mem_of_mem_drop hx))
  omega
set_option maxHeartbeats 400000 in
theorem beyond_any (A : Option Addr) (c : Nat) (xs : List Int) (n : Nat) (hn : n = xs.length) (w : World) (B : Nat) (hx : Rd .i64 w B A xs) (hb : ∀ x ∈ xs, 0 ≤ x ∧ x ≤ 140737488355328) (hl : xs.length ≤ 1000) :
    Calls Try.prog 21 #[.slice A n c] w fun e w' => e = .returned (.bool (bey xs)) ∧ w = w' := by
  subst hn
  go_enter Try.func21, Try.ntmps21
  go_wp2
  go_loop [3, 4] (fun s i => ∃ k : Nat, k ≤ xs.length ∧ i = .int .i64 k ∧ s = .int .i64 (xs.take k).sum ∧ 0 ≤ (xs.take k).sum ∧ (xs.take k).sum ≤ 1048576) (fun _ i => xs.length - (intOf i).toNat)
  case atStart => exact ⟨0, by omega, rfl, rfl, by simp, by simp⟩
  case round =>
    obtain ⟨k, hk, rfl, rfl, hs0, hs⟩ := hrel
    by_cases hlt : k < xs.length
    · obtain ⟨b, off, v, rfl, hB, hck, hv⟩ := hx.at_ hlt
      have hvb : 0 ≤ v ∧ v ≤ 140737488355328 := by
        rw [← hv.out, List.getElem?_eq_getElem hlt]; exact hb _ (List.getElem_mem _)
      have HS := Lib.hid (sum_take xs k v hlt hv.out)
      obtain ⟨s, hs'⟩ : ∃ s, (xs.take k).sum = s := ⟨_, rfl⟩
      rw [hs'] at HS hs0 hs ⊢
      have hm := sum_mono xs (fun x hx => (hb x hx).1) (k + 1)
      clear hs'
      by_cases hg : 1048576 < s + v
      · have e : bey xs = true := by unfold bey; simp; have := HS.out; omega
        have E := Lib.hid e
        clear e hm
        go_wp2
        go_ret
        exact ⟨retb E.out.symm, rfl⟩
      · clear hm
        go_wp2
        go_round
        case rel => exact ⟨k + 1, by omega, by go_num, by rw [HS.out], by rw [HS.out]; omega, by rw [HS.out]; omega⟩
        case measure => simp [intOf]; omega
    · have e : bey xs = false := by unfold bey; rw [List.take_of_length_le (by omega)] at hs; simp; omega
      have E := Lib.hid e
      clear e
      go_wp2
      go_ret
      exact ⟨retb E.out.symm, rfl⟩
theorem Try.info5 : (Try.prog.info? 5).map (fun i => (i.zero, i.size, i.bytes)) = some (some (.int .u8 0), 1, 1) := by kernel_rfl

theorem map_take {k : IntKind} (xs : List Int) (i : Nat) (v : Int) (hi : i < xs.length) (hv : xs[i]?.getD 0 = v) : (xs.take (i + 1)).map (Value.int k) = (xs.take i).map (Value.int k) ++ [.int k v] := by
  rw [List.take_succ_eq_append_getElem hi, ← hv, List.getElem?_eq_getElem hi, List.map_append]; rfl
set_option maxHeartbeats 400000 in
theorem twinBytes_any (A : Option Addr) (c : Nat) (xs : List Int) (n : Nat) (hn : n = xs.length) (w : World) (hx : Rd .u8 w w.heap.size A xs) (hl : xs.length ≤ 140737488355000) :
    Calls Try.prog 22 #[.slice A n c] w fun e w' => e = .returned (.slice (some ⟨w.heap.size, 0, none⟩) n (n + 1)) ∧ Below w.heap.size w w' ∧
      w'.ownsRow w.heap.size 5 1 (.slice (some ⟨w.heap.size, 0, none⟩) (n + 1) (n + 1)) (n + 1) ((xs ++ [77]).map (Value.int .u8)) := by
  subst hn
  obtain ⟨i0, hi, hz0, hz1, hz2⟩ := info_parts Try.info5
  go_enter Try.func22, Try.ntmps22
  go_wp2_with (at_make; refine wpList_make_own _ rfl _ _ 23 rfl w.heap.size 5 i0 (.int .u8 0) 1 Try.underlying23 hi hz0 hz1 _ _ _ (xs.length + 1) rfl rfl (by omega) ?b2 ?b3 (Nat.le_refl _) ?_)
  case b2 => rw [hz2]; omega
  case b3 => unfold maxLen; omega
  intro w1 hown hgrow
  have hB1 : Below w.heap.size w w1 := (Below.refl _ _).grown hgrow (Nat.le_refl _) (by simp)
  clear hgrow
  go_wp2
  go_loopw [3, 4] (fun v i wr => ∃ k : Nat, k ≤ xs.length ∧ i = .int .i64 k ∧ v = .slice (some ⟨w.heap.size, 0, none⟩) k (xs.length + 1) ∧
      wr.ownsRow w.heap.size 5 1 (.slice (some ⟨w.heap.size, 0, none⟩) k (xs.length + 1)) k ((xs.take k).map (Value.int .u8)) ∧ Below w.heap.size w wr) (fun _ i _ => xs.length - (intOf i).toNat)
  case atStart => exact ⟨0, by omega, rfl, rfl, by simpa using hown, hB1⟩
  case round =>
    clear hown hB1
    obtain ⟨k, hk, rfl, rfl, hown, hB⟩ := hrel
    have hsz := hB.size
    by_cases hlt : k < xs.length
    · obtain ⟨b, off, v, rfl, hBb, hck, hv⟩ := (hx.below hB).at_ hlt
      have HS := Lib.hid (map_take (k := .u8) xs k v hlt hv.out)
      go_wp2_with (at_builtin; refine wpList_append_fits _ rfl (.tmp 15) (.tmp 20) 23 rfl w.heap.size 5 i0 1 Try.underlying23 hi hz1 w.heap.size k (xs.length + 1) _ rfl (hown.alloc _) ⟨wr.heap.size, 0, none⟩ 1 1 [.int .u8 v] rfl rfl (cell_one_new _ _ _) (by simp [Value.oneCell']) (by omega) ?_; intro w2 hown2 hg2)
      have hB2 : Below w.heap.size w w2 := (hB.alloc hsz _).grown hg2 (by simp; omega) (by simp)
      go_wp2
      go_roundw
      case rel => exact ⟨k + 1, by omega, by go_num, rfl, by rw [HS.out]; exact hown2, hB2⟩
      case measure => simp [intOf]; omega
    · obtain rfl : k = xs.length := by omega
      rw [List.take_length] at hown
      go_wp2_with (at_builtin; refine wpList_append_fits _ rfl (.tmp 22) (.tmp 23) 23 rfl w.heap.size 5 i0 1 Try.underlying23 hi hz1 w.heap.size xs.length (xs.length + 1) _ rfl (hown.alloc _) ⟨wr.heap.size, 0, none⟩ 1 1 [.int .u8 77] rfl rfl (cell_one_new _ _ _) (by simp [Value.oneCell']) (by omega) ?_; intro w2 hown2 hg2)
      have hB2 : Below w.heap.size w w2 := (hB.alloc hsz _).grown hg2 (by simp; omega) (by simp)
      go_wp2
      go_ret
      exact ⟨rfl, hB2, by simpa using hown2⟩
set_option maxHeartbeats 400000 in
theorem leftBytes_any (T A : Option Addr) (tc c : Nat) (xs : List Int) (n : Nat) (hn : n = xs.length) (w : World) (B : Nat) (hx : Rd .u8 w B A xs) (ht : Rd .u8 w B T (xs ++ [77])) (hc : xs.length ≤ c) (htc : xs.length < tc) (hm : c ≤ 9223372036854775807 ∧ xs.length ≤ 140737488355328) (htm : tc ≤ 9223372036854775807) :
    Calls Try.prog 25 #[.slice T n tc, .slice A n c] w fun e w' => e = .returned (.bool true) ∧ ∃ nq, w' = w.drewN nq := by
  subst hn
  obtain ⟨tb, toff, v77, rfl, hBt, htk, htv⟩ := ht.at_ (i := xs.length) (by simp)
  have e77 : v77 = 77 := by rw [← htv.out]; simp
  subst e77
  clear htv
  go_enter Try.func25, Try.ntmps25
  go_wp2
  go_loopw [5] (fun i wr => ∃ k nq : Nat, k ≤ xs.length ∧ i = .int .i64 k ∧ wr = w.drewN nq) (fun i _ => xs.length - (intOf i).toNat)
  case atStart => exact ⟨0, 0, by omega, rfl, rfl⟩
  case round =>
    obtain ⟨k, nq, hk, rfl, rfl⟩ := hrel
    by_cases hlt : k < xs.length
    · obtain ⟨b, off, v, rfl, hBb, hck, hv⟩ := hx.at_ hlt
      obtain ⟨tb', toff', v', hT, _, htck, hv'⟩ := ht.at_ (i := k) (by simp; omega)
      simp only [Option.some.injEq, Addr.mk.injEq, and_true] at hT
      obtain ⟨rfl, rfl⟩ := hT
      have e : v' = v := by
        rw [← hv.out, ← hv'.out, List.getElem?_append_left hlt]
      subst e
      clear hv hv'
      have h1 : (0 : Int) ≤ (k : Int) := by omega
      have h2 : (k : Int) < (xs.length : Int) := by omega
      go_wp2
      go_quiet (fail)
      go_wp2
      go_roundw
      case rel => exact ⟨k + 1, _, by omega, by go_num, rfl⟩
      case measure => simp [intOf]; omega
    · obtain rfl : k = xs.length := by omega
      go_wp2
      go_ret
      exact ⟨rfl, _, rfl⟩
theorem val_drop (ys : List Int) (j : Nat) (v : Int) (hj : j < ys.length) (hv : ys[j]?.getD 0 = v) : val (ys.drop j) = v % 128 + 128 * val (ys.drop (j + 1)) := by
  rw [List.drop_eq_getElem_cons hj, ← hv, List.getElem?_eq_getElem hj]; rfl
theorem val_lt (ys : List Int) (n : Nat) (h : ys.length ≤ n) : 0 ≤ val ys ∧ val ys < 128 ^ n := by
  have := val_bd ys
  refine ⟨this.1, Int.lt_of_lt_of_le this.2 ?_⟩
  have h1 : (128 : Nat) ^ ys.length ≤ 128 ^ n := Nat.pow_le_pow_right (by omega) h
  have h2 : ((128 : Nat) ^ ys.length : Int) ≤ (128 ^ n : Nat) := by exact_mod_cast h1
  exact h2
/-- Where a byte below 128 stands at the place k, the first such one. -/
theorem get_at (xs : List Int) (k : Nat) (v : Int) (h9 : k < 9) (hl : k < xs.length) (hle : lead xs = k) (hv : xs[k]?.getD 0 = v) :
    getE xs = firstE k v (val (xs.take (k + 1))) ∧ getN xs = (if firstE k v (val (xs.take (k + 1))) = 0 then val (xs.take (k + 1)) else 0) ∧ getK xs = (if firstE k v (val (xs.take (k + 1))) = 0 then (k : Int) + 1 else 0) := by
  obtain ⟨e1, e2⟩ := sz_stop xs k hle h9 hl
  have hE : getE xs = firstE k v (val (xs.take (k + 1))) := by
    unfold firstE getE; rw [if_neg (by omega : ¬ szE xs ≠ 0), hle, hv]
  refine ⟨hE, ?_, ?_⟩
  · unfold getN; rw [hE, hle]
  · unfold getK; rw [hE, hle]
theorem firstE_bad {k : Nat} {v V : Int} (h : (0 < k ∧ v = 0) ∨ maxNum < V) : firstE k v V = 5 := by unfold firstE; rw [if_pos h]
theorem firstE_ok {k : Nat} {v V : Int} (h : ¬ (0 < k ∧ v = 0)) (h2 : ¬ 4611686018427387903 < V) : firstE k v V = 0 := by unfold firstE maxNum; rw [if_neg (by omega)]
theorem get_ret {xs : List Int} {k : Nat} {V f a b d : Int} (G : getE xs = f ∧ getN xs = (if f = 0 then V else 0) ∧ getK xs = (if f = 0 then (k : Int) + 1 else 0)) {x : Int} (E : f = x)
    (h : (x = 5 ∧ a = 0 ∧ b = 0 ∧ d = 5) ∨ (x = 0 ∧ a = V ∧ b = (k : Int) + 1 ∧ d = 0)) :
    Ending.returned (.tuple #[.int .u64 a, .int .i64 b, .int .i64 d]) = .returned (.tuple #[.int .u64 (getN xs), .int .i64 (getK xs), .int .i64 (getE xs)]) := by
  subst E
  obtain ⟨g1, g2, g3⟩ := G
  rcases h with ⟨h, rfl, rfl, rfl⟩ | ⟨h, rfl, rfl, rfl⟩
  · exact ret3 (by rw [g2, h]; rfl) (by rw [g3, h]; rfl) (by rw [g1, h])
  · exact ret3 (by rw [g2, h]; rfl) (by rw [g3, h]; rfl) (by rw [g1, h])
set_option maxHeartbeats 1000000 in
theorem refGet_any (A : Option Addr) (c : Nat) (xs : List Int) (n : Nat) (hn : n = xs.length) (w : World) (B : Nat) (hx : Rd .u8 w B A xs) (hb : ∀ x ∈ xs, 0 ≤ x ∧ x ≤ 255) (hc : xs.length ≤ c) (hm : c ≤ 9223372036854775807 ∧ xs.length ≤ 140737488355328) :
    Calls Try.prog 24 #[.slice A n c] w fun e w' => e = .returned (.tuple #[.int .u64 (getN xs), .int .i64 (getK xs), .int .i64 (getE xs)]) ∧ w = w' := by
  subst hn
  go_enter Try.func24, Try.ntmps24
  go_wp2
  go_loop [5] (fun i => ∃ k : Nat, k ≤ xs.length ∧ k ≤ 9 ∧ i = .int .i64 k ∧ k ≤ lead xs) (fun i => 9 - (intOf i).toNat)
  case atStart => exact ⟨0, by omega, by omega, rfl, by omega⟩
  case round =>
    obtain ⟨k, hk, hk9, rfl, hl⟩ := hrel
    by_cases h9 : k < 9
    · by_cases hlt : k < xs.length
      · obtain ⟨b, off, v, rfl, hB, hck, hv⟩ := hx.at_ hlt
        have hvb : 0 ≤ v ∧ v ≤ 255 := by
          rw [← hv.out, List.getElem?_eq_getElem hlt]; exact hb _ (List.getElem_mem _)
        by_cases hv128 : 128 ≤ v
        · go_wp2
          go_round
          case rel => exact ⟨k + 1, by omega, by omega, by go_num, lead_step xs k hl hlt (by rw [hv.out]; omega)⟩
          case measure => simp [intOf]; omega
        · have hs := lead_stop xs k hl hlt (by rw [hv.out]; omega)
          have G := Lib.hid (get_at xs k v h9 hlt hs hv.out)
          clear hs
          go_wp2
          go_loop [6, 7] (fun m i => ∃ j : Nat, j ≤ k + 1 ∧ i = .int .i64 ((j : Int) - 1) ∧ m = .int .u64 (val ((xs.take (k + 1)).drop j))) (fun _ i => (intOf i + 1).toNat)
          case atStart => exact ⟨k + 1, by omega, by go_num, by rw [List.drop_eq_nil_of_le (by rw [List.length_take]; omega)]; rfl⟩
          case round =>
            obtain ⟨j, hj, rfl, rfl⟩ := hrel
            by_cases hj0 : 0 < j
            · obtain ⟨i, rfl⟩ : ∃ i, j = i + 1 := ⟨j - 1, by omega⟩
              obtain ⟨b', off', u, hA, _, hcu, hu⟩ := hx.at_ (i := i) (by omega)
              simp only [Option.some.injEq, Addr.mk.injEq, and_true] at hA
              obtain ⟨rfl, rfl⟩ := hA
              have hub : 0 ≤ u ∧ u ≤ 255 := by
                rw [← hu.out, List.getElem?_eq_getElem (by omega)]; exact hb _ (List.getElem_mem _)
              have HS := Lib.hid (val_drop (xs.take (k + 1)) i u (by rw [List.length_take]; omega) (by rw [List.getElem?_take, if_pos (by omega)]; exact hu.out))
              have hbd := val_lt ((xs.take (k + 1)).drop (i + 1)) 8 (by rw [List.length_drop, List.length_take]; omega)
              obtain ⟨m, hmm⟩ : ∃ m, val ((xs.take (k + 1)).drop (i + 1)) = m := ⟨_, rfl⟩
              rw [hmm] at HS hbd ⊢
              have hbd2 : m < 72057594037927936 := hbd.2
              have hbd1 := hbd.1
              clear hmm hbd
              have hi1 : ((i + 1 : Nat) : Int) - 1 = (i : Int) := by omega
              rw [hi1]
              clear hi1
              go_wp2
              go_round
              case rel => exact ⟨i, by omega, by go_num, by rw [HS.out, Int.add_comm]⟩
              case measure => simp [intOf]
            · obtain rfl : j = 0 := by omega
              rw [List.drop_zero]
              have hbd := val_lt (xs.take (k + 1)) 9 (by rw [List.length_take]; omega)
              obtain ⟨m, hmm⟩ : ∃ m, val (xs.take (k + 1)) = m := ⟨_, rfl⟩
              rw [hmm] at G hbd ⊢
              have hbd2 : m < 9223372036854775808 := hbd.2
              have hbd1 := hbd.1
              clear hmm hbd
              by_cases hz : v = 0 ∧ 0 < k
              · have E := Lib.hid (firstE_bad (V := m) (.inl ⟨hz.2, hz.1⟩))
                obtain ⟨rfl, hz⟩ := hz
                go_wp2
                go_ret3
                exact ⟨get_ret G.out E.out (.inl ⟨rfl, rfl, rfl, rfl⟩), rfl⟩
              · by_cases hM : 4611686018427387903 < m
                · have E := Lib.hid (firstE_bad (k := k) (v := v) (V := m) (.inr hM))
                  by_cases hv0 : v = 0
                  · have hk0 : ¬ 0 < k := by omega
                    subst hv0
                    clear hz
                    go_wp2
                    go_ret3
                    exact ⟨get_ret G.out E.out (.inl ⟨rfl, rfl, rfl, rfl⟩), rfl⟩
                  · have hvb0 : (v == 0) = false := by simpa using hv0
                    go_wp2
                    go_ret3
                    exact ⟨get_ret G.out E.out (.inl ⟨rfl, rfl, rfl, rfl⟩), rfl⟩
                · have E := Lib.hid (firstE_ok (k := k) (v := v) (V := m) (by omega) (by omega))
                  by_cases hv0 : v = 0
                  · have hk0 : ¬ 0 < k := by omega
                    subst hv0
                    clear hz
                    go_wp2
                    go_ret3
                    exact ⟨get_ret G.out E.out (.inr ⟨rfl, rfl, rfl, rfl⟩), rfl⟩
                  · have hvb0 : (v == 0) = false := by simpa using hv0
                    go_wp2
                    go_ret3
                    exact ⟨get_ret G.out E.out (.inr ⟨rfl, rfl, rfl, rfl⟩), rfl⟩
      · have hle := lead_le xs
        obtain rfl : k = xs.length := by omega
        obtain ⟨_, e2⟩ := sz_short xs h9 hl
        have hE := get_sz (xs := xs) (by omega)
        obtain ⟨z1, z2⟩ := get_bad (xs := xs) (by omega)
        have HE := Lib.hid (hE.trans e2)
        have H1 := Lib.hid z1
        have H2 := Lib.hid z2
        clear e2 hE z1 z2 hle
        go_wp2
        go_ret3
        exact ⟨ret3 H1.out.symm H2.out.symm HE.out.symm, rfl⟩
    · obtain rfl : k = 9 := by omega
      obtain ⟨_, e2⟩ := sz_long xs hl
      have hE := get_sz (xs := xs) (by omega)
      obtain ⟨z1, z2⟩ := get_bad (xs := xs) (by omega)
      have HE := Lib.hid (hE.trans e2)
      have H1 := Lib.hid z1
      have H2 := Lib.hid z2
      clear e2 hE z1 z2
      by_cases hlt : 9 < xs.length
      · go_wp2
        go_ret3
        exact ⟨ret3 H1.out.symm H2.out.symm HE.out.symm, rfl⟩
      · go_wp2
        go_ret3
        exact ⟨ret3 H1.out.symm H2.out.symm HE.out.symm, rfl⟩
end Go.Proofs.Ytlkkmeeijjaeiaa
