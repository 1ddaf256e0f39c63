/- The walk of SetsBounds. -/
import Derived.Test.YtgcclijdkcomiaaDoorSx
namespace Go.Proofs.YtgcclijdkcomiaaDoor
open Go.RowKit
set_option linter.unusedVariables false
theorem filter_one (b k : Nat) (hk : k < b) (p : Nat → Bool) (hp : ∀ j, p j = decide (j = k)) : (List.range b).filter p = [k] :=
  sorted_ext (List.Pairwise.filter _ List.pairwise_lt_range) (List.pairwise_singleton _ _) (fun n => by
    rw [List.mem_filter, List.mem_range, hp, List.mem_singleton]
    simp only [decide_eq_true_eq]
    constructor
    · exact fun h => h.2
    · exact fun h => ⟨by omega, h⟩)
theorem filter_nil (b : Nat) (p : Nat → Bool) (hp : ∀ j, p j = false) : (List.range b).filter p = [] := by
  rw [List.filter_eq_nil_iff]; intro a _; rw [hp]; simp
theorem plus_in (bb k : Nat) (hk : k < bb) (j : Nat) : plus bb f0 (k : Int) j = decide (j = k) := by
  have : inB bb (k : Int) = true := by simp [inB]; omega
  unfold plus f0
  rw [this]
  by_cases e : j = k
  · subst e; simp
  · have : ¬ ((j : Int) = (k : Int)) := by omega
    simp [e, this]
theorem plus_out (bb : Nat) (n : Int) (h : inB bb n = false) (j : Nat) : plus bb f0 n j = false := by unfold plus f0; rw [h]; simp
set_option maxRecDepth 100000 in
set_option maxHeartbeats 1000000 in
theorem setsBounds_any (bound : Nat) (n : Int) (hb : bound ≤ 65535) (hn : n ≤ 9223372036854775807) (w : World) (hT : Tab w) :
    Calls Tryd.prog 7 #[.int .u16 bound, .int .i64 n] w fun e w' => e = .returned (.bool true) ∧ Below w.heap.size w w' := by
  obtain ⟨bb, hbb, hb2⟩ : ∃ q : Nat, (bound : Int) % 2049 = (q : Int) ∧ q ≤ 2048 := ⟨bound % 2049, by omega, by omega⟩
  have h0 := Lib.hid hT.pos
  have HN := Lib.hid (newL bb hb2 w w (Below.refl _ _) hT)
  have hn := Lib.hid hn
  clear hT
  by_cases hin : inB bb n = true
  · obtain ⟨hn0, hn1⟩ : 0 ≤ n ∧ n < bb := by simpa [inB] using hin
    obtain ⟨k, rfl⟩ : ∃ k : Nat, n = k := ⟨n.toNat, by omega⟩
    have hk : k < bb := by omega
    have e1 : inI bb f0 (k : Int) = false := by simp [inI, f0]
    have e2 : (inB bb (k : Int) && !f0 (k : Int).toNat) = true := by rw [hin]; rfl
    have e3 : inI bb (plus bb f0 (k : Int)) (k : Int) = true := by unfold inI; rw [hin, Int.toNat_natCast, plus_in bb k hk]; simp
    have e4 : nextF bb (plus bb f0 (k : Int)) (k : Int) = (k : Int) := by
      unfold nextF
      rw [filter_one bb k hk _ (fun j => by rw [plus_in bb k hk, Int.toNat_natCast]; by_cases e : j = k <;> simp [e])]; rfl
    have e5 : nextF bb (plus bb f0 (k : Int)) (-1) = (k : Int) := by
      unfold nextF
      rw [filter_one bb k hk _ (fun j => by rw [plus_in bb k hk]; simp)]; rfl
    have e6 : (listF bb (plus bb f0 (k : Int))).length = 1 := by
      unfold listF; rw [filter_one bb k hk _ (fun j => plus_in bb k hk j)]; rfl
    have e7 : (listF bb (minus (plus bb f0 (k : Int)) (k : Int))).length = 0 := by
      unfold listF; rw [filter_nil bb _ (fun j => by
        unfold minus; rw [plus_in bb k hk]
        by_cases e : j = k
        · subst e; simp
        · simp [e])]; rfl
    have E := Lib.hid (⟨e1, e2, e3, e4, e5, e6, e7⟩ : _ ∧ _ ∧ _ ∧ _ ∧ _ ∧ _ ∧ _)
    clear e1 e2 e3 e4 e5 e6 e7 hin hn0
    have t1 : decide ((k : Int) < (bb : Int)) = true := decide_eq_true hn1
    have hk0 : (0 : Int) ≤ (k : Int) := by omega
    go_enter Tryd.func7, Tryd.ntmps7
    go_wp2_with fail
    refine HN.out.mono ?_
    rintro e w1 ⟨b, g, rfl, L, _⟩
    have HA := Lib.hid (alive_any w1 L.tab)
    have L := Lib.hid (show Live w w1 b g bb f0 from L)
    go_wp2_with fail
    refine HA.out.mono ?_
    rintro e w2 ⟨rfl, hB⟩
    have H := Lib.hid (hasL (L.out.below hB) k false E.out.1)
    clear L hB
    go_wp2_with fail
    refine H.out.mono ?_
    rintro e w1 ⟨rfl, L, _⟩
    have H := Lib.hid (addL L h0.out k true E.out.2.1)
    clear L
    go_wp2_with fail
    refine H.out.mono ?_
    rintro e w1 ⟨rfl, L, _⟩
    have H := Lib.hid (hasL L k true E.out.2.2.1)
    clear L
    go_wp2_with fail
    refine H.out.mono ?_
    rintro e w1 ⟨rfl, L, _⟩
    have H := Lib.hid (nextL L k hn.out k E.out.2.2.2.1)
    clear L
    go_wp2_with fail
    refine H.out.mono ?_
    rintro e w1 ⟨rfl, L, _⟩
    have H := Lib.hid (nextL L (-1) (by omega) k E.out.2.2.2.2.1)
    clear L
    go_wp2_with fail
    refine H.out.mono ?_
    rintro e w1 ⟨rfl, L, _⟩
    have H := Lib.hid (lenL L 1 E.out.2.2.2.2.2.1)
    clear L
    go_wp2_with fail
    refine H.out.mono ?_
    rintro e w1 ⟨rfl, L, _⟩
    have H := Lib.hid (dropL L h0.out k true E.out.2.2.1)
    clear L
    go_wp2_with fail
    refine H.out.mono ?_
    rintro e w1 ⟨rfl, L, _⟩
    have H := Lib.hid (lenL L 0 E.out.2.2.2.2.2.2)
    clear L
    go_wp2_with fail
    refine H.out.mono ?_
    rintro e w1 ⟨rfl, L, _⟩
    have L := Lib.hid L
    go_wp2
    go_ret
    exact ⟨rfl, L.out.bel⟩
  · have hin' : inB bb n = false := by simpa using hin
    have p0 := plus_out bb n hin'
    have m0 : ∀ j, minus (plus bb f0 n) n j = false := fun j => by unfold minus; rw [p0]; rfl
    have e1 : inI bb f0 n = false := by unfold inI; rw [hin']; rfl
    have e2 : (inB bb n && !f0 n.toNat) = false := by rw [hin']; rfl
    have e3 : inI bb (plus bb f0 n) n = false := by unfold inI; rw [hin']; rfl
    have e4 : ∀ x, nextF bb (plus bb f0 n) x = -1 := fun x => by
      unfold nextF
      rw [filter_nil bb _ (fun j => by rw [p0]; rfl)]; rfl
    have e6 : (listF bb (plus bb f0 n)).length = 0 := by
      unfold listF; rw [filter_nil bb _ p0]; rfl
    have e7 : (listF bb (minus (plus bb f0 n) n)).length = 0 := by
      unfold listF; rw [filter_nil bb _ m0]; rfl
    have E := Lib.hid (⟨e1, e2, e3, e4, e6, e7⟩ : _ ∧ _ ∧ _ ∧ _ ∧ _ ∧ _)
    have t0 : Hid (decide (0 ≤ n) = false ∨ (0 ≤ n ∧ decide (n < (bb : Int)) = false)) := by
      by_cases h : 0 ≤ n
      · right; refine ⟨h, ?_⟩; simp [inB] at hin'; simp; omega
      · left; simpa using h
    clear e1 e2 e3 e4 e6 e7 hin hin' p0 m0
    rcases t0.out with t1 | ⟨t0, t1⟩
    all_goals
      go_enter Tryd.func7, Tryd.ntmps7
      go_wp2_with fail
      refine HN.out.mono ?_
      rintro e w1 ⟨b, g, rfl, L, _⟩
      have HA := Lib.hid (alive_any w1 L.tab)
      have L := Lib.hid (show Live w w1 b g bb f0 from L)
      go_wp2_with fail
      refine HA.out.mono ?_
      rintro e w2 ⟨rfl, hB⟩
      have H := Lib.hid (hasL (L.out.below hB) n false E.out.1)
      clear L hB
      go_wp2_with fail
      refine H.out.mono ?_
      rintro e w1 ⟨rfl, L, _⟩
      have H := Lib.hid (addL L h0.out n false E.out.2.1)
      clear L
      go_wp2_with fail
      refine H.out.mono ?_
      rintro e w1 ⟨rfl, L, _⟩
      have H := Lib.hid (hasL L n false E.out.2.2.1)
      clear L
      go_wp2_with fail
      refine H.out.mono ?_
      rintro e w1 ⟨rfl, L, _⟩
      have H := Lib.hid (nextL L n hn.out (-1) (E.out.2.2.2.1 n))
      clear L
      go_wp2_with fail
      refine H.out.mono ?_
      rintro e w1 ⟨rfl, L, _⟩
      have H := Lib.hid (nextL L (-1) (by omega) (-1) (E.out.2.2.2.1 (-1)))
      clear L
      go_wp2_with fail
      refine H.out.mono ?_
      rintro e w1 ⟨rfl, L, _⟩
      have H := Lib.hid (lenL L 0 E.out.2.2.2.2.1)
      clear L
      go_wp2_with fail
      refine H.out.mono ?_
      rintro e w1 ⟨rfl, L, _⟩
      have H := Lib.hid (dropL L h0.out n false E.out.2.2.1)
      clear L
      go_wp2_with fail
      refine H.out.mono ?_
      rintro e w1 ⟨rfl, L, _⟩
      have H := Lib.hid (lenL L 0 E.out.2.2.2.2.2)
      clear L
      go_wp2_with fail
      refine H.out.mono ?_
      rintro e w1 ⟨rfl, L, _⟩
      have L := Lib.hid L
      go_wp2
      go_ret
      exact ⟨rfl, L.out.bel⟩
end Go.Proofs.YtgcclijdkcomiaaDoor
