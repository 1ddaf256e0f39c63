/- A set in memory, as it is read; the walks of takes, bit, Has and wordsFrom. -/
import Derived.Test.YtgcclijdkcomiaaDoorSa
import Derived.StillTailTactics
namespace Go.Proofs.YtgcclijdkcomiaaDoor
open Go.RowKit
set_option linter.unusedVariables false

/-- What is asked of a set's words. -/
structure Words (bound : Nat) (ws : List Nat) : Prop where
  len : ws.length = (bound + 63) / 64
  le : bound ≤ 2048
  lt : ∀ x ∈ ws, x < 18446744073709551616
  top : ∀ n, bound ≤ n → has ws n = false
/-- A set in block b, as it is read: the slice of words at A, the bound. -/
structure SetR (w : World) (b : Nat) (A : Option Addr) (bound : Nat) (ws : List Nat) : Prop where
  c0 : w.cell? ⟨b, 0, none⟩ = some (.slice A ws.length ws.length)
  c1 : w.cell? ⟨b, 1, none⟩ = some (.int .i64 bound)
  rd : Rd .u64 w w.heap.size A (ws.map Int.ofNat)
  ok : Words bound ws
theorem cell_lt {w : World} {b o : Nat} {v : Value} (h : w.cell? ⟨b, o, none⟩ = some v) : b < w.heap.size := by
  rcases Nat.lt_or_ge b w.heap.size with h1 | h1
  · exact h1
  · simp [World.cell?, Array.getElem?_eq_none h1] at h
theorem SetR.below {w w' : World} {b : Nat} {A : Option Addr} {bound : Nat} {ws : List Nat} (h : SetR w b A bound ws) (k : Below w.heap.size w w') : SetR w' b A bound ws :=
  ⟨(k.cell (p := ⟨b, 0, none⟩) (cell_lt h.c0)).trans h.c0, (k.cell (p := ⟨b, 1, none⟩) (cell_lt h.c0)).trans h.c1, (h.rd.below k).more k.size, h.ok⟩
theorem word_at {ws : List Nat} {k : Nat} (hk : k < ws.length) : (ws.map Int.ofNat)[k]?.getD 0 = ((ws[k]?.getD 0 : Nat) : Int) := by
  rw [List.getElem?_map, List.getElem?_eq_getElem hk]; rfl
theorem word_lt {bound : Nat} {ws : List Nat} (h : Words bound ws) {k : Nat} (hk : k < ws.length) : ws[k]?.getD 0 < 18446744073709551616 := by
  rw [List.getElem?_eq_getElem hk]; exact h.lt _ (List.getElem_mem hk)
/-- May n be in the set? -/
def inB (bound : Nat) (n : Int) : Bool := decide (0 ≤ n) && decide (n < (bound : Int))
set_option maxHeartbeats 400000 in
theorem takes_any (b : Nat) (bound : Nat) (n : Int) (w : World) (hc : w.cell? ⟨b, 1, none⟩ = some (.int .i64 bound)) :
    Calls Tryd.prog 27 #[.pointer (some ⟨b, 0, none⟩), .int .i64 n] w fun e w' => e = .returned (.bool (inB bound n)) ∧ w = w' := by
  by_cases h0 : 0 ≤ n
  · by_cases h1 : n < (bound : Int)
    · have e : inB bound n = true := by simp [inB, h0, h1]
      rw [e]
      clear e
      go_enter Tryd.func27, Tryd.ntmps27
      go_wp2
      go_ret
      exact ⟨rfl, rfl⟩
    · have e : inB bound n = false := by simp [inB]; omega
      rw [e]
      clear e
      have h1' : decide (n < (bound : Int)) = false := by simpa using h1
      go_enter Tryd.func27, Tryd.ntmps27
      go_wp2
      go_ret
      exact ⟨rfl, rfl⟩
  · have e : inB bound n = false := by simp [inB]; omega
    rw [e]
    clear e
    have h0' : decide (0 ≤ n) = false := by simpa using h0
    go_enter Tryd.func27, Tryd.ntmps27
    go_wp2
    go_ret
    exact ⟨rfl, rfl⟩
theorem takes_none (n : Int) (w : World) :
    Calls Tryd.prog 27 #[.pointer none, .int .i64 n] w fun e w' => e = .returned (.bool false) ∧ w = w' := by
  go_enter Tryd.func27, Tryd.ntmps27
  go_wp2
  go_ret
  exact ⟨rfl, rfl⟩
theorem bit_any (n : Nat) (hn : n ≤ 9223372036854775807) (w : World) :
    Calls Tryd.prog 28 #[.int .i64 n] w fun e w' => e = .returned (.int .u64 ((2 ^ (n % 64) : Nat) : Int)) ∧ w = w' := by
  go_enter Tryd.func28, Tryd.ntmps28
  go_wp2
  go_ret
  refine ⟨?_, rfl⟩
  have hp : 2 ^ (n % 64) < 18446744073709551616 := Nat.pow_lt_pow_right (n := 64) (by decide) (by omega)
  have := wrap_small (2 ^ (n % 64)) hp
  simp only [Int.natCast_pow] at this ⊢
  exact congrArg (fun z => Ending.returned (Value.int IntKind.u64 z)) this
theorem and_pow (a k : Nat) : a &&& 2 ^ k = if a.testBit k then 2 ^ k else 0 := by
  apply Nat.eq_of_testBit_eq
  intro j
  rw [Nat.testBit_and, Nat.testBit_two_pow]
  by_cases h : k = j
  · subst h
    cases hb : a.testBit k <;> simp
  · cases hb : a.testBit k <;> simp [h]
theorem quiet_any {P : Program} {f : FuncId} {args : Array Value} {w : World} {v : Value} (H : ∀ m, Calls P f args (w.drewN m) fun e w' => e = .returned v ∧ w.drewN m = w') (n : Nat) :
    Calls P f args (w.drewN n) fun e w'' => e = .returned v ∧ ∃ m, w'' = w.drewN m := (H n).mono fun _ _ ⟨he, hm⟩ => ⟨he, n, hm.symm⟩
/-- Is n one of the numbers of the set? -/
def hasI (bound : Nat) (ws : List Nat) (n : Int) : Bool := inB bound n && has ws n.toNat
set_option maxHeartbeats 1000000 in
theorem has_no (b : Nat) (bound : Nat) (n : Int) (w : World) (hc : w.cell? ⟨b, 1, none⟩ = some (.int .i64 bound)) (hn : inB bound n = false) :
    Calls Tryd.prog 14 #[.pointer (some ⟨b, 0, none⟩), .int .i64 n] w fun e w' => e = .returned (.bool false) ∧ ∃ k, w' = w.drewN k := by
  have H := Lib.hid (quiet_any (fun m => by have := takes_any b bound n (w.drewN m) (by simpa using hc); rw [hn] at this; exact this))
  clear hn
  go_enter Tryd.func14, Tryd.ntmps14
  go_wp2
  go_quiet ((go_at_call 27; exact H.out _))
  go_wp2
  go_ret
  exact ⟨rfl, _, rfl⟩
set_option maxHeartbeats 1000000 in
theorem hasNone (n : Int) (w : World) :
    Calls Tryd.prog 14 #[.pointer none, .int .i64 n] w fun e w' => e = .returned (.bool false) ∧ ∃ k, w' = w.drewN k := by
  have H := Lib.hid (quiet_any (fun m => takes_none n (w.drewN m)))
  go_enter Tryd.func14, Tryd.ntmps14
  go_wp2
  go_quiet ((go_at_call 27; exact H.out _))
  go_wp2
  go_ret
  exact ⟨rfl, _, rfl⟩
set_option maxHeartbeats 1000000 in
theorem has_yes (b : Nat) (A : Option Addr) (bound : Nat) (ws : List Nat) (n : Nat) (w : World) (h : SetR w b A bound ws) (hn : n < bound) :
    Calls Tryd.prog 14 #[.pointer (some ⟨b, 0, none⟩), .int .i64 n] w fun e w' => e = .returned (.bool (has ws n)) ∧ ∃ k, w' = w.drewN k := by
  have hk : n / 64 < ws.length := by rw [h.ok.len]; omega
  have hle := h.ok.le
  obtain ⟨g, off, v, rfl, hg, hv, hvv⟩ := h.rd.at_ (i := n / 64) (by simpa using hk)
  have hvv := hvv.out
  rw [word_at hk] at hvv
  have hl := word_lt h.ok hk
  have hb : has ws n = (ws[n / 64]?.getD 0).testBit (n % 64) := rfl
  revert hv hvv hl hb
  generalize ws[n / 64]?.getD 0 = x
  intro hv hvv hl hb
  subst hvv
  have H1 := Lib.hid (quiet_any (fun m => by have := takes_any b bound n (w.drewN m) (by simpa using h.c1); rw [show inB bound n = true by simp [inB]; omega] at this; exact this))
  have H2 := Lib.hid (quiet_any (fun m => bit_any n (by omega) (w.drewN m)))
  have hq : (n : Int) / 64 = ((n / 64 : Nat) : Int) := by omega
  have E := bits_and_u64_nat x (2 ^ (n % 64)) hl (Nat.pow_lt_pow_right (n := 64) (by decide) (by omega))
  have R : (((x &&& 2 ^ (n % 64) : Nat) : Int) != 0) = has ws n := by
    rw [hb, and_pow]
    cases hx : x.testBit (n % 64)
    · simp
    · have : 2 ^ (n % 64) ≠ 0 := Nat.ne_of_gt (Nat.two_pow_pos _)
      simp only [if_true, bne_iff_ne]
      omega
  clear hb hl
  revert E R H2
  generalize x &&& 2 ^ (n % 64) = y
  generalize 2 ^ (n % 64) = p
  generalize has ws n = r
  intro H2 E R
  have c0 := h.c0
  have hkk : n / 64 < ws.length := hk
  clear h
  revert hkk c0 hq hv
  generalize ws.length = L
  generalize n / 64 = q
  intro hv hq c0 hkk
  go_enter Tryd.func14, Tryd.ntmps14
  go_wp2
  go_quiet ((first | (go_at_call 27; exact H1.out _) | (go_at_call 28; exact H2.out _)))
  go_wp2
  go_ret
  exact ⟨rfl, _, rfl⟩
/-- Has, of any number. -/
theorem has_any (b : Nat) (A : Option Addr) (bound : Nat) (ws : List Nat) (n : Int) (w : World) (h : SetR w b A bound ws) :
    Calls Tryd.prog 14 #[.pointer (some ⟨b, 0, none⟩), .int .i64 n] w fun e w' => e = .returned (.bool (hasI bound ws n)) ∧ ∃ k, w' = w.drewN k := by
  by_cases hb : inB bound n = true
  · have h2 : 0 ≤ n ∧ n < bound := by simpa [inB] using hb
    obtain ⟨m, rfl⟩ : ∃ m : Nat, n = m := ⟨n.toNat, by omega⟩
    have := has_yes b A bound ws m w h (by omega)
    have e : hasI bound ws (m : Int) = has ws m := by simp [hasI, hb]
    rw [e]; exact this
  · have hb' : inB bound n = false := by simpa using hb
    have e : hasI bound ws n = false := by simp [hasI, hb']
    rw [e]; exact has_no b bound n w h.c1 hb'
set_option maxHeartbeats 1000000 in
/-- wordsFrom of a set that is not there. -/
theorem wordsFrom_none (n : Int) (w : World) : Calls Tryd.prog 31 #[.pointer none, .int .i64 n] w fun e w' => e = .returned (.slice none 0 0) ∧ ∃ k, w' = w.drewN k := by
  go_enter Tryd.func31, Tryd.ntmps31
  go_wp2
  go_ret
  exact ⟨rfl, 0, rfl⟩
/-- What wordsFrom answers: the words from word q on. -/
def WFrom (w : World) (A : Option Addr) (ws : List Nat) (q : Nat) (A' : Option Addr) : Prop := Rd .u64 w w.heap.size A' ((ws.drop (min q ws.length)).map Int.ofNat) ∧ (q < ws.length → A' = A.map (·.add q))
set_option maxHeartbeats 1000000 in
theorem wordsFrom_any (b : Nat) (A : Option Addr) (bound : Nat) (ws : List Nat) (n : Nat) (w : World) (h : SetR w b A bound ws) (hn : n ≤ 9223372036854775807) :
    Calls Tryd.prog 31 #[.pointer (some ⟨b, 0, none⟩), .int .i64 n] w fun e w' => (∃ A', e = .returned (.slice A' (ws.drop (min (n / 64) ws.length)).length (ws.drop (min (n / 64) ws.length)).length) ∧ WFrom w A ws (n / 64) A') ∧ ∃ k, w' = w.drewN k := by
  have hL : ws.length ≤ 32 := by rw [h.ok.len]; have := h.ok.le; omega
  have hd : (ws.drop (min (n / 64) ws.length)).length = ws.length - min (n / 64) ws.length := List.length_drop
  rw [hd]
  clear hd
  have hq : ((n : Int) / 64) = ((n / 64 : Nat) : Int) := by omega
  have c0 := h.c0
  by_cases hql : n / 64 < ws.length
  · have hrd := h.rd.drop (n := n / 64) (cap := ws.length) (by simp)
    obtain ⟨g, off, v, hA, hg, hv, hvv⟩ := h.rd.at_ (i := n / 64) (by simpa using hql)
    subst hA
    clear h hvv hv hg
    have HL := Lib.hid (show min (n / 64) ws.length = n / 64 by omega)
    have ea : (⟨g, off, none⟩ : Addr).add (n / 64) = ⟨g, off + n / 64, none⟩ := by unfold Addr.add; split <;> simp_all
    rw [if_neg (by omega)] at hrd
    have hrd' := Lib.hid (show WFrom w (some ⟨g, off, none⟩) ws (n / 64) (some ⟨g, off + n / 64, none⟩) from
      ⟨by rw [HL.out, List.map_drop]; rw [Option.map_some, ea] at hrd; exact hrd, fun _ => by rw [Option.map_some, ea]⟩)
    rw [HL.out]
    clear hrd HL ea
    revert hrd' hq hql
    generalize n / 64 = q
    intro hq hql hrd
    revert c0 hL hql hrd
    generalize hLL : ws.length = L
    clear hLL
    intro hL c0 hql hrd
    have h1 : q ≤ L := by omega
    go_enter Tryd.func31, Tryd.ntmps31
    go_wp2
    go_quiet (fail)
    go_wp2
    go_ret
    exact ⟨⟨_, rfl, hrd.out⟩, _, rfl⟩
  · have HL := Lib.hid (show min (n / 64) ws.length = ws.length by omega)
    have hrd := Lib.hid (show WFrom w A ws (n / 64) A from ⟨by rw [HL.out, List.drop_length]; exact fun h => by simp at h, fun h => absurd h hql⟩)
    rw [HL.out]
    clear HL h
    have h1 : ws.length ≤ n / 64 := by omega
    clear hql
    revert h1 hq hrd
    generalize n / 64 = q
    intro hq hrd h1
    revert c0 hL hrd h1
    generalize hLL : ws.length = L
    clear hLL
    intro hL c0 hrd h1
    rw [Nat.sub_self]
    go_enter Tryd.func31, Tryd.ntmps31
    go_wp2
    all_goals
      go_quiet (fail)
      go_wp2
      go_ret
      exact ⟨⟨_, rfl, hrd.out⟩, _, rfl⟩
end Go.Proofs.YtgcclijdkcomiaaDoor
