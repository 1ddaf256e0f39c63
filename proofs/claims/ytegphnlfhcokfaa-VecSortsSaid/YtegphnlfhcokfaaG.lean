/- The walks of layer 3 (vec) on the middle: nearerTo, its closure, Middle. -/
import Derived.Test.YtegphnlfhcokfaaF
import Derived.Deep.RegionHeld3
namespace Go.Proofs.Ytegphnlfhcokfaa
open Go.RowKit Go.Shelf
set_option linter.unusedVariables false
/-- Is x nearer to m than y? -/
def nearB (x y m : List Int) : Bool := decide (far x m < far y m)
set_option maxRecDepth 100000 in
set_option maxHeartbeats 1000000 in
theorem nearer_any (A B M : Option Addr) (a b c n : Nat) (xs ys ms : List Int) (hxn : xs.length = n) (hyn : ys.length = n) (hmn : ms.length = n) (Bm : Nat) (w : World)
    (hx : Rd .i8 w w.heap.size A xs) (hy : Rd .i8 w w.heap.size B ys) (hm : Rd .i8 w w.heap.size M ms) (bx : ∀ x ∈ xs, -128 ≤ x ∧ x ≤ 127) (bY : ∀ x ∈ ys, -128 ≤ x ∧ x ≤ 127) (bm : ∀ x ∈ ms, -128 ≤ x ∧ x ≤ 127) (hn : n ≤ 64)
    (hBm : Bm < w.heap.size) (hc : w.cell? ⟨Bm, 0, none⟩ = some (.slice M n c)) :
    Calls Try.prog 104 #[.slice A n a, .slice B n b, .pointer (some ⟨Bm, 0, none⟩)] w fun e w' => e = .returned (.bool (nearB xs ys ms)) ∧ Below w.heap.size w w' := by
  have H : ∀ W, Below w.heap.size w W → ∀ (Z : Option Addr) (z : Nat) (zs : List Int), Rd .i8 w w.heap.size Z zs → (∀ x ∈ zs, -128 ≤ x ∧ x ≤ 127) → zs.length = n → Calls Try.prog 33 #[.slice Z n z, .slice M n c] W fun e w' => e = .returned (.int .i64 (far zs ms)) ∧ Below w.heap.size w w' := fun W hW Z z zs h1 h2 h3 => by
    have := apart_any Z M z c zs ms (by omega) (by omega) W ((h1.below hW).more hW.size) ((hm.below hW).more hW.size) h2 bm
    rw [h3] at this
    exact this.mono fun e w' ⟨h4, h5⟩ => ⟨h4, hW.trans (h5.mono hW.size)⟩
  have HX := Lib.hid (fun W hW => H W hW A a xs hx bx hxn)
  have HY := Lib.hid (fun W hW => H W hW B b ys hy bY hyn)
  have E := Lib.hid (show nearB xs ys ms = decide (far xs ms < far ys ms) from rfl)
  generalize nearB xs ys ms = r at E ⊢
  generalize far xs ms = fx at HX E
  generalize far ys ms = fy at HY E
  have HC := Lib.hid hc
  clear H hx hy hm bx bY bm hxn hyn hmn
  have hBw := Below.refl w.heap.size w
  go_enter Try.func104, Try.ntmps104
  go_wp2
  go_region_held3 (fun w' => w'.cell? ⟨Bm, 0, none⟩ = some (.slice M n c) ∧ Below w.heap.size w w')
    (first
      | exact ⟨HC.out, (Below.refl _ w).drew⟩
      | exact ⟨(Below.cell (p := ⟨Bm, 0, none⟩) (by assumption) hBm).trans HC.out, by assumption⟩
      | (go_split_ands; exact ⟨by assumption, by assumption⟩))
    (first
      | (go_at_call 33; (with_reducible refine (HX.out _ ?_).mono ?_); (go_split_ands; assumption); rintro e w' ⟨rfl, hB⟩)
      | (go_at_call 33; (with_reducible refine (HY.out _ ?_).mono ?_); (go_split_ands; assumption); rintro e w' ⟨rfl, hB⟩))
  go_wp2
  go_ret
  exact ⟨retb E.out.symm, hB⟩
theorem nearerTo_any (M : Option Addr) (n c : Nat) (w : World) : Calls Try.prog 77 #[.slice M n c] w fun e w' => e = .returned (.func (.func 104) #[] #[.pointer (some ⟨w.heap.size, 0, none⟩)]) ∧ w' = w.alloc (.cells #[.slice M n c] 22) := by
  go_enter Try.func77, Try.ntmps77
  go_wp2
  go_ret
  exact ⟨rfl, rfl⟩
/-- How far the vector of a place is from m. -/
def frAt (vs : List (List Int)) (m : List Int) (i : Nat) : Int := far (vs[i]?.getD []) m
/-- k is the first place, of those below p, that is nearest to m. -/
def MidP (vs : List (List Int)) (m : List Int) (p k : Nat) : Prop := (∀ i, i < p → frAt vs m k ≤ frAt vs m i) ∧ ∀ i, i < k → frAt vs m k < frAt vs m i
theorem MidP.keep {vs : List (List Int)} {m : List Int} {p k : Nat} (h : MidP vs m p k) (hn : ¬ frAt vs m p < frAt vs m k) : MidP vs m (p + 1) k := ⟨fun i hi => by
  rcases Nat.lt_or_ge i p with h1 | h1
  · exact h.1 i h1
  · obtain rfl : i = p := by omega
    omega, h.2⟩
theorem MidP.turn {vs : List (List Int)} {m : List Int} {p k : Nat} (h : MidP vs m p k) (hn : frAt vs m p < frAt vs m k) : MidP vs m (p + 1) p := ⟨fun i hi => by
  rcases Nat.lt_or_ge i p with h1 | h1
  · have := h.1 i h1; omega
  · obtain rfl : i = p := by omega
    omega, fun i hi => by have := h.1 i hi; omega⟩
theorem middle_no (A : Option Addr) (c : Nat) (L : List Vc) (n : Nat) (hn : n = L.length) (w : World) (B : Nat) (hx : RdV w B A L) (hl : L.length ≤ 140737488355328) (h : mayB (vecs L) = false) :
    Calls Try.prog 30 #[.slice A n c] w fun e w' => e = .returned (.tuple #[.int .i64 0, .int .i64 1]) ∧ w = w' := by
  have H := Lib.hid (mean_no A c L n hn w B hx hl h)
  clear hx hn h
  go_enter Try.func30, Try.ntmps30
  go_wp2_with fail
  refine H.out.mono ?_
  rintro e w' ⟨rfl, rfl⟩
  go_wp2
  go_ret2
  exact ⟨rfl, rfl⟩
/-- What Middle answers: the place of the first vector nearest to the mean. -/
def MidYes (w : World) (vs : List (List Int)) (e : Ending) (w' : World) : Prop :=
  ∃ k : Nat, e = .returned (.tuple #[.int .i64 (k : Int), .int .i64 0]) ∧ k < vs.length ∧ MidP vs (meanL vs) vs.length k ∧ Below w.heap.size w w'
theorem meanL_bd {vs : List (List Int)} (h1 : 1 ≤ vs.length) (hb : B8 vs) : ∀ x ∈ meanL vs, -128 ≤ x ∧ x ≤ 127 := fun x hx => by
  unfold meanL at hx
  simp only [List.mem_map] at hx
  obtain ⟨p, _, rfl⟩ := hx
  exact quo_half (by omega) (sumP_bd vs hb p)
set_option maxRecDepth 100000 in
set_option maxHeartbeats 1000000 in
theorem middle_yes (A : Option Addr) (c : Nat) (L : List Vc) (n : Nat) (hn : n = L.length) (w : World) (hx : RdV w w.heap.size A L) (h : mayB (vecs L) = true) (hb : B8 (vecs L)) :
    Calls Try.prog 30 #[.slice A n c] w (MidYes w (vecs L)) := by
  subst hn
  have hm := mayB_yes h
  rw [vecs_len] at hm
  have hl1 : 1 ≤ L.length := hm.1
  have hl2 : L.length ≤ 2048 := hm.2.1
  have hd2 : dimOf (vecs L) ≤ 64 := hm.2.2.2.1
  have HM := Lib.hid hm.2.2.2.2
  have H := Lib.hid (mean_yes A c L _ rfl w hx h hb)
  have HBD := Lib.hid hb
  have HMB := Lib.hid (meanL_bd (by rw [vecs_len]; exact hl1) hb)
  have HML := Lib.hid (meanL_len (vecs L))
  clear h hm hb
  generalize dimOf (vecs L) = D at hd2 HM H HML
  go_enter Try.func30, Try.ntmps30
  go_wp2_with fail
  refine H.out.mono ?_
  rintro e w1 ⟨rfl, hown, hB1⟩
  have HMR : Rd .i8 w1 w1.heap.size (some ⟨w.heap.size, 0, none⟩) (meanL (vecs L)) := rd_own hown
  have H77 := Lib.hid (nearerTo_any (some ⟨w.heap.size, 0, none⟩) D D w1)
  clear hown H
  go_wp2_with fail
  refine H77.out.mono ?_
  rintro e w2 ⟨rfl, rfl⟩
  have hcB := (Boxed.new w1 22 (.slice (some ⟨w.heap.size, 0, none⟩) D D)).cell
  have hBx : Below w1.heap.size w1 (w1.alloc (.cells #[.slice (some ⟨w.heap.size, 0, none⟩) D D] 22)) := (Below.refl _ _).alloc (Nat.le_refl _) _
  have hB2 : Below w.heap.size w (w1.alloc (.cells #[.slice (some ⟨w.heap.size, 0, none⟩) D D] 22)) := hB1.alloc hB1.size _
  have hMR2 := (HMR.below hBx).more hBx.size
  have hz : w1.heap.size < (w1.alloc (.cells #[.slice (some ⟨w.heap.size, 0, none⟩) D D] 22)).heap.size := by simp
  generalize w1.alloc (.cells #[.slice (some ⟨w.heap.size, 0, none⟩) D D] 22) = w2 at hcB hB2 hMR2 hz ⊢
  have KEY : Hid (∀ W, Below w2.heap.size w2 W → ∀ (i j : Nat) (a : Option Addr) (c : Nat) (v : List Int) (b : Option Addr) (d : Nat) (u : List Int), L[i]? = some (a, c, v) → L[j]? = some (b, d, u) → i < L.length → j < L.length → Calls Try.prog 104 #[.slice a v.length c, .slice b u.length d, .pointer (some ⟨w1.heap.size, 0, none⟩)] W fun e w' => e = .returned (.bool (decide (frAt (vecs L) (meanL (vecs L)) i < frAt (vecs L) (meanL (vecs L)) j))) ∧ Below w2.heap.size w2 w') := fun W hW i j a c v b d u hi hj hil hjl => by
    have hv : v.length = D := by have := HM.out i hil; rw [vecs_at hi] at this; exact this
    have hu : u.length = D := by have := HM.out j hjl; rw [vecs_at hj] at this; exact this
    have hWw : Below w.heap.size w W := hB2.trans (hW.mono hB2.size)
    obtain ⟨_, _, a', c', v', _, _, _, hrv, hv'⟩ := hx.at_ hil
    obtain ⟨_, _, b', d', u', _, _, _, hru, hu'⟩ := hx.at_ hjl
    have e1 := hv'.out; rw [hi] at e1; cases e1
    have e2 := hu'.out; rw [hj] at e2; cases e2
    have key := nearer_any a b (some ⟨w.heap.size, 0, none⟩) c d D D v u (meanL (vecs L)) hv hu HML.out w1.heap.size W ((hrv.below hWw).more hWw.size) ((hru.below hWw).more hWw.size) ((hMR2.below hW).more hW.size) (b8_at HBD.out (vecs_at hi)) (b8_at HBD.out (vecs_at hj)) HMB.out hd2 (by have := hW.size; omega) ((hW.cell (p := ⟨w1.heap.size, 0, none⟩) hz).trans hcB)
    rw [hv, hu]
    refine key.mono fun e w' ⟨h1, h2⟩ => ⟨?_, hW.trans (h2.mono hW.size)⟩
    rw [h1]
    unfold nearB frAt
    rw [vecs_at hi, vecs_at hj]
    rfl
  clear H77 HMR hMR2 hBx hcB hB1 HMB HBD HML HM
  generalize w1.heap.size = gB at KEY ⊢
  go_wp2
  go_loopw [7, 22] (fun bs i wr => ∃ p b : Nat, p ≤ L.length ∧ i = .int .i64 p ∧ bs = .int .i64 b ∧ b < L.length ∧ Hid (MidP (vecs L) (meanL (vecs L)) p b) ∧ Below w2.heap.size w2 wr) (fun _ i _ => L.length - (intOf i).toNat)
  case atStart => exact ⟨0, 0, by omega, rfl, rfl, by omega, (⟨fun i hi => absurd hi (Nat.not_lt_zero _), fun i hi => absurd hi (Nat.not_lt_zero _)⟩ : MidP (vecs L) (meanL (vecs L)) 0 0), Below.refl _ _⟩
  case round =>
    obtain ⟨p, b, hp, rfl, rfl, hbL, HP, hB⟩ := hrel
    by_cases hlt : p < L.length
    · have hBw : Below w.heap.size w wr := hB2.trans (hB.mono hB2.size)
      obtain ⟨b1, off1, a1, c1, v1, rfl, _, hck1, _, hv1⟩ := (hx.below hBw).at_ hlt
      obtain ⟨b1', off1', a2, c2, v2, hA, _, hck2, _, hv2⟩ := (hx.below hBw).at_ hbL
      simp only [Option.some.injEq, Addr.mk.injEq, and_true] at hA
      obtain ⟨rfl, rfl⟩ := hA
      have HK := Lib.hid (KEY.out wr hB p b a1 c1 v1 a2 c2 v2 hv1.out hv2.out hlt hbL)
      clear hv1 hv2 hBw
      by_cases hlt2 : frAt (vecs L) (meanL (vecs L)) p < frAt (vecs L) (meanL (vecs L)) b
      · rw [decide_eq_true hlt2] at HK
        have HN : Hid (MidP (vecs L) (meanL (vecs L)) (p + 1) p) := HP.out.turn hlt2
        clear hlt2 HP
        go_wp2_with fail
        refine HK.out.mono ?_
        rintro e w5 ⟨rfl, hB5⟩
        go_wp2
        go_roundw
        case rel => exact ⟨p + 1, p, by omega, by go_num, rfl, hlt, HN, hB5⟩
        case measure => simp [intOf]; omega
      · rw [decide_eq_false hlt2] at HK
        have HN : Hid (MidP (vecs L) (meanL (vecs L)) (p + 1) b) := HP.out.keep hlt2
        clear hlt2 HP
        go_wp2_with fail
        refine HK.out.mono ?_
        rintro e w5 ⟨rfl, hB5⟩
        go_wp2
        go_roundw
        case rel => exact ⟨p + 1, b, by omega, by go_num, rfl, hbL, HN, hB5⟩
        case measure => simp [intOf]; omega
    · obtain rfl : p = L.length := by omega
      go_wp2
      go_ret2
      exact ⟨b, rfl, by rw [vecs_len]; exact hbL, by rw [vecs_len]; exact HP.out, hB2.trans (hB.mono hB2.size)⟩
end Go.Proofs.Ytegphnlfhcokfaa
