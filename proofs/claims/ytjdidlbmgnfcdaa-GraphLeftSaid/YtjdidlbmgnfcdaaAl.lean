/- The chapter's graph; alive. -/
import Derived.Test.YtjdidlbmgnfcdaaTc
import Derived.Test.YtjdidlbmgnfcdaaLg
import Derived.Test.YtjdidlbmgnfcdaaJa
namespace Go.Proofs.Ytjdidlbmgnfcdaa
open Go.RowKit
set_option linter.unusedVariables false
def smallG : List Pn := [(7, [0], [1]), (8, [1], [2]), (9, [2], []), (10, [3], [0])]
theorem smallG_holds : holdsB smallG 0 = true := by decide
theorem smallG_find9 : findI smallG 9 = 2 := by decide
theorem smallG_find11 : findI smallG 11 = -1 := by decide
theorem smallG_check : checkB smallG 0 1 1 1 1 1 = true := by decide
theorem smallG_check2 : checkB smallG 0 1 1 1 1 2 = false := by decide
theorem smallG_drop1 : dropB smallG 0 [1] = true := by decide
theorem smallG_drop11 : dropB smallG 0 [1, 1] = false := by decide
theorem smallG_way {k i : Nat} (h : Way smallG 0 k i) : i ≤ 2 ∧ i ≤ k := by
  induction h with
  | here => omega
  | @step k i j hw ht ih =>
    obtain ⟨h1, h2⟩ := ih
    have : i = 0 ∨ i = 1 ∨ i = 2 := by omega
    rcases this with rfl | rfl | rfl
    · have : (j : Int) ∈ [(1 : Int)] := ht
      rw [List.mem_singleton] at this; omega
    · have : (j : Int) ∈ [(2 : Int)] := ht
      rw [List.mem_singleton] at this; omega
    · have : (j : Int) ∈ ([] : List Int) := ht
      simp at this
theorem smallG_hops : hopsA smallG 0 = [0, 1, 2, -1] := by
  have w1 : Way smallG 0 1 1 := Way.step Way.here (show ((1 : Nat) : Int) ∈ [(1 : Int)] by simp)
  have w2 : Way smallG 0 2 2 := Way.step w1 (show ((2 : Nat) : Int) ∈ [(2 : Int)] by simp)
  have h0 : hopI smallG 0 0 = 0 := hop_start _ _
  have h1 : hopI smallG 0 1 = 1 := hopI_of (.inr ⟨1, rfl, w1, fun j hj h => by have := smallG_way h; omega⟩)
  have h2 : hopI smallG 0 2 = 2 := hopI_of (.inr ⟨2, rfl, w2, fun j hj h => by have := smallG_way h; omega⟩)
  have h3 : hopI smallG 0 3 = -1 := hopI_of (.inl ⟨rfl, fun k h => by have := smallG_way h; omega⟩)
  unfold hopsA
  rw [if_pos smallG_holds]
  show [hopI smallG 0 0, hopI smallG 0 1, hopI smallG 0 2, hopI smallG 0 3] = _
  rw [h0, h1, h2, h3]
theorem smallG_reached : reachedA smallG 0 = [0, 1, 2] := by
  rw [reachedA_K, smallG_hops]
  have w1 : Way smallG 0 1 1 := Way.step Way.here (show ((1 : Nat) : Int) ∈ [(1 : Int)] by simp)
  have w2 : Way smallG 0 2 2 := Way.step w1 (show ((2 : Nat) : Int) ∈ [(2 : Int)] by simp)
  have h0 : hopI smallG 0 0 = 0 := hop_start _ _
  have h1 : hopI smallG 0 1 = 1 := hopI_of (.inr ⟨1, rfl, w1, fun j hj h => by have := smallG_way h; omega⟩)
  have h2 : hopI smallG 0 2 = 2 := hopI_of (.inr ⟨2, rfl, w2, fun j hj h => by have := smallG_way h; omega⟩)
  have h3 : hopI smallG 0 3 = -1 := hopI_of (.inl ⟨rfl, fun k h => by have := smallG_way h; omega⟩)
  show reachK smallG 0 4 = _
  unfold reachK
  simp [List.range, List.range.loop, h0, h1, h2, h3]
theorem smallG_dropA : dropA smallG 0 [1] = [(7, [0], []), (9, [2], []), (10, [3], [0])] := by decide
theorem smallG_small : GSmall smallG := by
  constructor <;> decide
theorem smallG_ok : ∀ x ∈ smallG, PnOk x := by
  intro x hx
  simp [smallG] at hx
  rcases hx with rfl | rfl | rfl | rfl <;> simp [PnOk] <;> omega
theorem lit_rd8 {w : World} {B b : Nat} {a : Int} (h : w.cell? ⟨b, 0, none⟩ = some (.int .i8 a)) (hB : b < B) : Rd .i8 w B (some ⟨b, 0, none⟩) [a] := fun _ => ⟨b, 0, rfl, hB, fun i hi => by
  obtain rfl : i = 0 := by simpa using hi
  exact h⟩
theorem lit_rd64 {w : World} {B b : Nat} {a : Int} (h : w.cell? ⟨b, 0, none⟩ = some (.int .i64 a)) (hB : b < B) : Rd .i64 w B (some ⟨b, 0, none⟩) [a] := fun _ => ⟨b, 0, rfl, hB, fun i hi => by
  obtain rfl : i = 0 := by simpa using hi
  exact h⟩
set_option maxRecDepth 100000 in
set_option maxHeartbeats 4000000 in
theorem small_any (w : World) : Calls Try.prog 25 #[] w fun e w' => ∃ A L, e = .returned (.agg #[.slice A 4 4, .int .i64 0]) ∧ RdG w' w'.heap.size A L ∧ pns L = smallG ∧ (∀ x ∈ L, x.2.1.1 = none → x.2.1.2.1 = 0) ∧ (∀ x ∈ L, x.2.2.2.2.length ≤ x.2.2.2.1) ∧ Below w.heap.size w w' := by
  go_enter Try.func25, Try.ntmps25
  go_wp2_with fail
  refine bodyPost_ret (v := .agg #[.slice (some ⟨w.heap.size + 1 + 1 + 1 + 1 + 1 + 1 + 1 + 1, 0, none⟩) 4 4, .int .i64 0]) (by rw [resCellG rfl]; go_simp) rfl ?_
  refine ⟨_, [(7, (some ⟨w.heap.size + 1, 0, none⟩, 1, [0]), (some ⟨w.heap.size + 1 + 1, 0, none⟩, 1, [1])), (8, (some ⟨w.heap.size + 1 + 1 + 1, 0, none⟩, 1, [1]), (some ⟨w.heap.size + 1 + 1 + 1 + 1, 0, none⟩, 1, [2])), (9, (some ⟨w.heap.size + 1 + 1 + 1 + 1 + 1, 0, none⟩, 1, [2]), (none, 0, [])), (10, (some ⟨w.heap.size + 1 + 1 + 1 + 1 + 1 + 1, 0, none⟩, 1, [3]), (some ⟨w.heap.size + 1 + 1 + 1 + 1 + 1 + 1 + 1, 0, none⟩, 1, [0]))], rfl, fun _ => ⟨_, 0, rfl, ?_, fun i hi => ?_⟩, rfl, ?_, ?_, ?_⟩
  · simp [go_sem] <;> omega
  · have hi' : i < 4 := hi
    match i, hi' with
    | 0, _ => exact ⟨by simp [go_sem], by simp [go_sem], by simp [go_sem], lit_rd8 (by simp [go_sem]) (by simp [go_sem] <;> omega), lit_rd64 (by simp [go_sem]) (by simp [go_sem] <;> omega)⟩
    | 1, _ => exact ⟨by simp [go_sem], by simp [go_sem], by simp [go_sem], lit_rd8 (by simp [go_sem]) (by simp [go_sem] <;> omega), lit_rd64 (by simp [go_sem]) (by simp [go_sem] <;> omega)⟩
    | 2, _ => exact ⟨by simp [go_sem], by simp [go_sem], by simp [go_sem], lit_rd8 (by simp [go_sem]) (by simp [go_sem] <;> omega), fun h => absurd h (Nat.not_lt_zero _)⟩
    | 3, _ => exact ⟨by simp [go_sem], by simp [go_sem], by simp [go_sem], lit_rd8 (by simp [go_sem]) (by simp [go_sem] <;> omega), lit_rd64 (by simp [go_sem]) (by simp [go_sem] <;> omega)⟩
  · intro x hx
    simp at hx
    rcases hx with rfl | rfl | rfl | rfl <;> simp
  · intro x hx
    simp at hx
    rcases hx with rfl | rfl | rfl | rfl <;> simp
  · exact Below.trans (by repeat (first | exact Below.refl _ _ | apply below_one | (refine Below.setCell ?_ (Nat.le_refl _) _))) (Below.refl _ _)
/-- The chapter's graph, as it was made. -/
structure SmG (w : World) (A : Option Addr) (L : List Gn) : Prop where
  rd : RdG w w.heap.size A L
  hv : pns L = smallG
  hn : ∀ x ∈ L, x.2.1.1 = none → x.2.1.2.1 = 0
  room : ∀ x ∈ L, x.2.2.2.2.length ≤ x.2.2.2.1
theorem SmG.below {w w' : World} {A : Option Addr} {L : List Gn} (h : SmG w A L) (hb : Below w.heap.size w w') : SmG w' A L := ⟨(h.rd.below hb).more hb.size, h.hv, h.hn, h.room⟩
theorem SmG.len {w : World} {A : Option Addr} {L : List Gn} (h : SmG w A L) : L.length = 4 := by have := pns_len L; rw [h.hv] at this; exact this.symm
theorem SmG.arg {w : World} {A : Option Addr} {L : List Gn} (h : SmG w A L) : GArg w A L := ⟨h.rd, by rw [h.hv]; exact smallG_small, by rw [h.hv]; exact smallG_ok⟩
theorem smallC (w : World) : Calls Try.prog 25 #[] w fun e w' => ∃ A L, e = .returned (.agg #[.slice A 4 4, .int .i64 0]) ∧ SmG w' A L ∧ Below w.heap.size w w' := by
  refine (small_any w).mono ?_
  rintro e w' ⟨A, L, rfl, h1, h2, h3, h4, hb⟩
  exact ⟨A, L, rfl, ⟨h1, h2, h3, h4⟩, hb⟩
theorem reached_small {w : World} {A : Option Addr} {L : List Gn} (h : SmG w A L) : Calls Try.prog 24 #[.agg #[.slice A 4 4, .int .i64 0]] w (IAns w [0, 1, 2] 0) := by
  have := reached_any A 4 L 0 w h.arg
  rw [h.len, h.hv, smallG_reached, smallG_holds] at this
  exact this
theorem hops_small {w : World} {A : Option Addr} {L : List Gn} (h : SmG w A L) : Calls Try.prog 26 #[.agg #[.slice A 4 4, .int .i64 0]] w (IAns w [0, 1, 2, -1] 0) := by
  have := hops_any A 4 L 0 w h.arg
  rw [h.len, h.hv, smallG_hops, smallG_holds] at this
  exact this
theorem lit1_64 (w : World) (a : Int) : Rd .i64 (w.alloc (.cells #[.int .i64 a] 3)) (w.alloc (.cells #[.int .i64 a] 3)).heap.size (some ⟨w.heap.size, 0, none⟩) [a] := lit_rd64 (by simp [go_sem]) (by simp [go_sem])
theorem lit2_64 (w : World) (a b : Int) : Rd .i64 (w.alloc (.cells #[.int .i64 a, .int .i64 b] 3)) (w.alloc (.cells #[.int .i64 a, .int .i64 b] 3)).heap.size (some ⟨w.heap.size, 0, none⟩) [a, b] := fun _ => ⟨w.heap.size, 0, rfl, by simp [go_sem], fun i hi => by
  have hi' : i < 2 := hi
  match i, hi' with
  | 0, _ => simp [go_sem]
  | 1, _ => simp [go_sem]⟩
theorem lit3_64 (w : World) (a b c : Int) : Rd .i64 (w.alloc (.cells #[.int .i64 a, .int .i64 b, .int .i64 c] 3)) (w.alloc (.cells #[.int .i64 a, .int .i64 b, .int .i64 c] 3)).heap.size (some ⟨w.heap.size, 0, none⟩) [a, b, c] := fun _ => ⟨w.heap.size, 0, rfl, by simp [go_sem], fun i hi => by
  have hi' : i < 3 := hi
  match i, hi' with
  | 0, _ => simp [go_sem]
  | 1, _ => simp [go_sem]
  | 2, _ => simp [go_sem]⟩
theorem lit4_64 (w : World) (a b c d : Int) : Rd .i64 (w.alloc (.cells #[.int .i64 a, .int .i64 b, .int .i64 c, .int .i64 d] 3)) (w.alloc (.cells #[.int .i64 a, .int .i64 b, .int .i64 c, .int .i64 d] 3)).heap.size (some ⟨w.heap.size, 0, none⟩) [a, b, c, d] := fun _ => ⟨w.heap.size, 0, rfl, by simp [go_sem], fun i hi => by
  have hi' : i < 4 := hi
  match i, hi' with
  | 0, _ => simp [go_sem]
  | 1, _ => simp [go_sem]
  | 2, _ => simp [go_sem]
  | 3, _ => simp [go_sem]⟩
theorem drop1_small {w : World} {A : Option Addr} {L : List Gn} {B : Option Addr} {d : Nat} (h : SmG w A L) (hp : Rd .i64 w w.heap.size B [1]) : Calls Try.prog 11 #[.agg #[.slice A 4 4, .int .i64 0], .slice B 1 d] w (GAns w [(7, [0], []), (9, [2], []), (10, [3], [0])] 0 0) := by
  have := drop_any A 4 L 0 B d [1] w h.arg h.hn hp (by simp)
  have e : dropS smallG 0 [1] = 0 := by decide
  rw [h.len, h.hv, smallG_dropA, smallG_drop1, e] at this
  exact this
theorem drop11_small {w : World} {A : Option Addr} {L : List Gn} {B : Option Addr} {d : Nat} (h : SmG w A L) (hp : Rd .i64 w w.heap.size B [1, 1]) : Calls Try.prog 11 #[.agg #[.slice A 4 4, .int .i64 0], .slice B 2 d] w (GAns w [] 0 1) := by
  have := drop_any A 4 L 0 B d [1, 1] w h.arg h.hn hp (by simp)
  have e : dropS smallG 0 [1, 1] = 0 := by decide
  have e2 : dropA smallG 0 [1, 1] = [] := by decide
  rw [h.len, h.hv, smallG_drop11, e, e2] at this
  exact this
theorem check1_small {w : World} {A : Option Addr} {L : List Gn} (h : SmG w A L) : Calls Try.prog 10 #[.agg #[.slice A 4 4, .int .i64 0], .agg #[.int .i64 1, .int .i64 1, .int .i64 1, .int .i64 1, .int .i64 1]] w fun e w' => e = .returned (.bool true) ∧ Below w.heap.size w w' := by
  have := check_any A 4 L 0 1 1 1 1 1 w h.arg h.room
  rw [h.len, h.hv, smallG_check] at this
  exact this
theorem check2_small {w : World} {A : Option Addr} {L : List Gn} (h : SmG w A L) : Calls Try.prog 10 #[.agg #[.slice A 4 4, .int .i64 0], .agg #[.int .i64 1, .int .i64 1, .int .i64 1, .int .i64 1, .int .i64 2]] w fun e w' => e = .returned (.bool false) ∧ Below w.heap.size w w' := by
  have := check_any A 4 L 0 1 1 1 1 2 w h.arg h.room
  rw [h.len, h.hv, smallG_check2] at this
  exact this
theorem find9_small {w : World} {A : Option Addr} {L : List Gn} (h : SmG w A L) : Calls Try.prog 12 #[.agg #[.slice A 4 4, .int .i64 0], .int .u64 9] w fun e w' => e = .returned (.int .i64 2) ∧ Below w.heap.size w w' := by
  have := find_any A 4 L 0 9 w _ (Nat.le_refl _) h.rd (by rw [h.len]; decide)
  rw [h.len, h.hv, smallG_find9] at this
  exact this
theorem find11_small {w : World} {A : Option Addr} {L : List Gn} (h : SmG w A L) : Calls Try.prog 12 #[.agg #[.slice A 4 4, .int .i64 0], .int .u64 11] w fun e w' => e = .returned (.int .i64 (-1)) ∧ Below w.heap.size w w' := by
  have := find_any A 4 L 0 11 w _ (Nat.le_refl _) h.rd (by rw [h.len]; decide)
  rw [h.len, h.hv, smallG_find11] at this
  exact this
set_option maxRecDepth 100000 in
set_option maxHeartbeats 8000000 in
theorem alive_any (w : World) : Calls Try.prog 8 #[] w fun e w' => e = .returned (.bool true) ∧ Below w.heap.size w w' := by
  go_enter Try.func8, Try.ntmps8
  go_wp2_with fail
  obtain ⟨w1, ew1⟩ : ∃ w1, w.alloc (.cells #[.int .i64 1, .int .i64 1, .int .i64 1, .int .i64 1, .int .i64 1] 26) = w1 := ⟨_, rfl⟩
  obtain ⟨g, eg⟩ : ∃ g, w.heap.size = g := ⟨_, rfl⟩
  have hb1 : Below w.heap.size w w1 := by rw [← ew1]; exact below_one (Below.refl _ _) _
  have hz1 : Whole w1 g 26 #[.int .i64 1, .int .i64 1, .int .i64 1, .int .i64 1, .int .i64 1] := by rw [← ew1, ← eg]; exact Whole.new w _ _
  have HB1 := Lib.hid hb1
  have HZ1 := Lib.hid hz1
  rw [ew1, eg]
  clear ew1 eg hb1 hz1
  refine (smallC w1).mono ?_
  rintro e w2 ⟨A2, L2, rfl, s2, b2⟩
  dsimp only
  go_wp2_with fail
  refine (reached_small s2).mono ?_
  rintro e w3 ⟨V3, m3, rfl, o3, b3⟩
  dsimp only
  have c3 := Lib.hid (b2.trans (b3.mono b2.size))
  clear s2 b2 b3
  go_wp2_with fail
  refine (smallC w3).mono ?_
  rintro e w4 ⟨A4, L4, rfl, s4, b4⟩
  dsimp only
  go_wp2_with fail
  refine (hops_small s4).mono ?_
  rintro e w5 ⟨V5, m5, rfl, o5, b5⟩
  dsimp only
  have c5 := Lib.hid (b4.trans (b5.mono b4.size))
  have O3 := Lib.hid (own_below o3 c5.out)
  clear s4 b4 b5 o3
  go_wp2_with fail
  refine (smallC w5).mono ?_
  rintro e w6 ⟨A6, L6, rfl, s6, b6⟩
  dsimp only
  go_wp2_with fail
  have bl6 : Below w6.heap.size w6 (w6.alloc (.cells #[.int .i64 1] 3)) := below_one (Below.refl _ _) _
  refine (drop1_small (s6.below bl6) (lit1_64 w6 1)).mono ?_
  rintro e w7 ⟨A7, q7, T7, rfl, o7, v7, b7⟩
  dsimp only
  have l7 : T7.length = 3 := by have := pns_len T7; rw [v7] at this; exact this.symm
  obtain ⟨g7, rfl, -⟩ := own_some o7.row (by omega)
  obtain ⟨x, y, z, rfl⟩ : ∃ x y z, T7 = [x, y, z] := by
    match T7, l7 with
    | [x, y, z], _ => exact ⟨x, y, z, rfl⟩
  have ez : z.2.2.2.2 = [0] := by
    simp [pns, pn] at v7
    exact v7.2.2.2.2
  have k7 : w7.cell? ⟨g7, 8, none⟩ = some (.slice z.2.2.1 1 z.2.2.2.1) := by
    have := (o7.row.cellAt 8 (show 8 < 3 * 3 by decide)).trans (show _ = some (.slice z.2.2.1 z.2.2.2.2.length z.2.2.2.1) from rfl)
    rw [ez] at this
    exact this
  have c7 := Lib.hid ((b6.mono (Nat.le_refl _)).trans ((bl6.mono b6.size).trans (b7.mono (Nat.le_trans b6.size bl6.size))))
  clear ez v7 l7 o7 b7 bl6 s6 b6
  go_upto_region 5 with fail
  obtain ⟨w8, ew8⟩ : ∃ w8, w7.alloc (.cells #[.slice (some ⟨g7, 0, none⟩) 3 q7, .int .i64 0] 24) = w8 := ⟨_, rfl⟩
  obtain ⟨x8, ex8⟩ : ∃ x8, w7.heap.size = x8 := ⟨_, rfl⟩
  have b8 : Below w7.heap.size w7 w8 := by rw [← ew8]; exact below_one (Below.refl _ _) _
  have z8 : Whole w8 x8 24 #[.slice (some ⟨g7, 0, none⟩) 3 q7, .int .i64 0] := by rw [← ew8, ← ex8]; exact Whole.new w7 _ _
  have k8 := Lib.hid ((b8.cell (World.block_lt_of_cell? w7 _ k7)).trans k7)
  have B8 := Lib.hid b8
  have Z8 := Lib.hid z8
  rw [ew8, ex8]
  clear ew8 ex8 b8 z8 k7
  go_wp2_with fail
  refine (smallC w8).mono ?_
  rintro e w9 ⟨A9, L9, rfl, s9, b9⟩
  dsimp only
  go_wp2_with fail
  have bl9 : Below w9.heap.size w9 (w9.alloc (.cells #[.int .i64 1, .int .i64 1] 3)) := below_one (Below.refl _ _) _
  refine (drop11_small (s9.below bl9) (lit2_64 w9 1 1)).mono ?_
  rintro e wA ⟨AA, qA, TA, rfl, oA, vA, bA⟩
  dsimp only
  have lA : TA.length = 0 := by have := pns_len TA; rw [vA] at this; exact this.symm
  rw [lA]
  have cA := Lib.hid ((b9.mono (Nat.le_refl _)).trans ((bl9.mono b9.size).trans (bA.mono (Nat.le_trans b9.size bl9.size))))
  clear lA oA vA bl9 s9 b9 bA
  go_upto_region 6 with fail
  obtain ⟨wB, ewB⟩ : ∃ wB, wA.alloc (.cells #[.slice AA 0 qA, .int .i64 0] 24) = wB := ⟨_, rfl⟩
  have bB : Below wA.heap.size wA wB := by rw [← ewB]; exact below_one (Below.refl _ _) _
  rw [ewB]
  have B8B := Lib.hid (B8.out.trans ((cA.out.trans (bB.mono cA.out.size)).mono B8.out.size))
  have B7B : Hid (Below w1.heap.size w1 wB) := Lib.hid (c3.out.trans ((c5.out.trans ((c7.out.trans (B8B.out.mono c7.out.size)).mono c5.out.size)).mono c3.out.size))
  have y1 := HZ1.out.below B7B.out HZ1.out.lt
  have y10 := y1.cell 0
  have y11 := y1.cell 1
  have y12 := y1.cell 2
  have y13 := y1.cell 3
  have y14 := y1.cell 4
  clear ewB y1
  go_upto_region 7 with fail
  obtain ⟨wC, ewC⟩ : ∃ wC, wB.alloc (.cells #[.int .i64 1, .int .i64 1, .int .i64 1, .int .i64 1, .int .i64 1] 26) = wC := ⟨_, rfl⟩
  obtain ⟨xC, exC⟩ : ∃ xC, wB.heap.size = xC := ⟨_, rfl⟩
  have bC : Below wB.heap.size wB wC := by rw [← ewC]; exact below_one (Below.refl _ _) _
  have zC : Whole wC xC 26 #[.int .i64 1, .int .i64 1, .int .i64 1, .int .i64 1, .int .i64 1] := by rw [← ewC, ← exC]; exact Whole.new wB _ _
  have hxC : wB.heap.size ≤ xC := Nat.le_of_eq exC
  have zD := zC.set 4 (.int .i64 2)
  have bD : Below wB.heap.size wB (wC.setCell ⟨xC, 4, none⟩ (.int .i64 2)) := bC.setCell hxC _
  have BB := Lib.hid bB
  have BC := Lib.hid bC
  have BD := Lib.hid bD
  have ZD := Lib.hid zD
  have yC4 := zC.cell 4
  have yCf := zC.frozen 4
  rw [ewC, exC]
  clear ewC exC bC y10 y11 y12 y13 y14 bB bD zD hxC zC
  go_upto_region 8 with fail
  obtain ⟨wD, ewD⟩ : ∃ wD, wC.setCell ⟨xC, 4, none⟩ (.int .i64 2) = wD := ⟨_, rfl⟩
  rw [ewD] at BD ZD ⊢
  clear ewD yC4 yCf
  have HCL : Hid (∀ W, Below wD.heap.size wD W → (W.cell? ⟨g, 0, none⟩ = some (.int .i64 1) ∧ W.cell? ⟨g, 1, none⟩ = some (.int .i64 1) ∧ W.cell? ⟨g, 2, none⟩ = some (.int .i64 1) ∧ W.cell? ⟨g, 3, none⟩ = some (.int .i64 1) ∧ W.cell? ⟨g, 4, none⟩ = some (.int .i64 1)) ∧ (W.cell? ⟨xC, 0, none⟩ = some (.int .i64 1) ∧ W.cell? ⟨xC, 1, none⟩ = some (.int .i64 1) ∧ W.cell? ⟨xC, 2, none⟩ = some (.int .i64 1) ∧ W.cell? ⟨xC, 3, none⟩ = some (.int .i64 1) ∧ W.cell? ⟨xC, 4, none⟩ = some (.int .i64 2)) ∧ W.cell? ⟨x8, 0, none⟩ = some (.slice (some ⟨g7, 0, none⟩) 3 q7) ∧ W.cell? ⟨g7, 8, none⟩ = some (.slice z.2.2.1 1 z.2.2.2.1)) := Lib.hid (fun W h => by
    have hWB : Below wB.heap.size wB W := BD.out.trans (h.mono BD.out.size)
    have h1 := HZ1.out.below (B7B.out.trans (hWB.mono B7B.out.size)) HZ1.out.lt
    have h2 := ZD.out.below h ZD.out.lt
    have b8W : Below w8.heap.size w8 W := cA.out.trans ((BB.out.trans (hWB.mono BB.out.size)).mono cA.out.size)
    have h3 := Z8.out.below b8W Z8.out.lt
    exact ⟨⟨h1.cell 0, h1.cell 1, h1.cell 2, h1.cell 3, h1.cell 4⟩, ⟨h2.cell 0, h2.cell 1, h2.cell 2, h2.cell 3, h2.cell 4⟩, h3.cell 0, (b8W.cell (World.block_lt_of_cell? w8 _ k8.out)).trans k8.out⟩)
  have HUB : Hid (∀ W W', Below wD.heap.size wD W → Below W.heap.size W W' → Below wD.heap.size wD W') := Lib.hid (fun W W' h h' => h.trans (h'.mono h.size))
  have C3 : Hid (∀ W, Below wD.heap.size wD W → Calls Try.prog 23 #[.slice V3 3 m3, .slice (some ⟨W.heap.size, 0, none⟩) 3 3] (W.alloc (.cells #[.int .i64 0, .int .i64 1, .int .i64 2] 3)) fun e w' => e = .returned (.bool true) ∧ Below W.heap.size W w') := Lib.hid (fun W h => by
    have b : Below W.heap.size W (W.alloc (.cells #[.int .i64 0, .int .i64 1, .int .i64 2] 3)) := below_one (Below.refl _ _) _
    have o := own_below (own_below (own_below (own_below (own_below O3.out c7.out) B8B.out) BD.out) h) b
    have := sameZ_any V3 (some ⟨W.heap.size, 0, none⟩) m3 3 [0, 1, 2] [0, 1, 2] _ _ (own_rdK o) (lit3_64 W 0 1 2) (by decide) (by decide)
    refine this.mono ?_
    rintro e w' ⟨rfl, nq, rfl⟩
    exact ⟨by rw [eqZ_self], below_drewN b nq⟩)
  have C5 : Hid (∀ W, Below wD.heap.size wD W → Calls Try.prog 23 #[.slice V5 4 m5, .slice (some ⟨W.heap.size, 0, none⟩) 4 4] (W.alloc (.cells #[.int .i64 0, .int .i64 1, .int .i64 2, .int .i64 (-1)] 3)) fun e w' => e = .returned (.bool true) ∧ Below W.heap.size W w') := Lib.hid (fun W h => by
    have b : Below W.heap.size W (W.alloc (.cells #[.int .i64 0, .int .i64 1, .int .i64 2, .int .i64 (-1)] 3)) := below_one (Below.refl _ _) _
    have o := own_below (own_below (own_below (own_below (own_below o5 c7.out) B8B.out) BD.out) h) b
    have := sameZ_any V5 (some ⟨W.heap.size, 0, none⟩) m5 4 [0, 1, 2, -1] [0, 1, 2, -1] _ _ (own_rdK o) (lit4_64 W 0 1 2 (-1)) (by decide) (by decide)
    refine this.mono ?_
    rintro e w' ⟨rfl, nq, rfl⟩
    exact ⟨by rw [eqZ_self], below_drewN b nq⟩)
  have HUP : Hid (∀ W, Below wD.heap.size wD W → Below w.heap.size w W) := Lib.hid (fun W h => by
    have hWB : Below wB.heap.size wB W := BD.out.trans (h.mono BD.out.size)
    exact HB1.out.trans ((B7B.out.trans (hWB.mono B7B.out.size)).mono HB1.out.size))
  clear O3 o5 c7 B8B BD ZD BC BB B7B Z8 B8 k8 cA HZ1 HB1 c3 c5
  have bd : Below wD.heap.size wD wD.drew := (Below.refl _ _).drew
  obtain ⟨⟨y0, y1, y2, y3, y4⟩, ⟨y5, y6, y7, y8, y9⟩, ya, yb⟩ := HCL.out _ bd
  go_region_held3 (fun W => (W.cell? ⟨g, 0, none⟩ = some (.int .i64 1) ∧ W.cell? ⟨g, 1, none⟩ = some (.int .i64 1) ∧ W.cell? ⟨g, 2, none⟩ = some (.int .i64 1) ∧ W.cell? ⟨g, 3, none⟩ = some (.int .i64 1) ∧ W.cell? ⟨g, 4, none⟩ = some (.int .i64 1)) ∧ (W.cell? ⟨xC, 0, none⟩ = some (.int .i64 1) ∧ W.cell? ⟨xC, 1, none⟩ = some (.int .i64 1) ∧ W.cell? ⟨xC, 2, none⟩ = some (.int .i64 1) ∧ W.cell? ⟨xC, 3, none⟩ = some (.int .i64 1) ∧ W.cell? ⟨xC, 4, none⟩ = some (.int .i64 2)) ∧ W.cell? ⟨x8, 0, none⟩ = some (.slice (some ⟨g7, 0, none⟩) 3 q7) ∧ W.cell? ⟨g7, 8, none⟩ = some (.slice z.2.2.1 1 z.2.2.2.1))
    (first | exact HCL.out _ (by with_reducible assumption) | exact HCL.out _ (below_one (by with_reducible assumption) _) | fail)
    (first
      | (go_at_call 23; with_reducible refine (C5.out _ (by with_reducible assumption)).mono ?_; rintro e wn ⟨rfl, bn⟩; have cn : Below wD.heap.size wD wn := HUB.out _ _ (by with_reducible assumption) bn; obtain ⟨⟨y0, y1, y2, y3, y4⟩, ⟨y5, y6, y7, y8, y9⟩, ya, yb⟩ := HCL.out _ cn)
      | (go_at_call 23; refine (C3.out _ (by with_reducible assumption)).mono ?_; rintro e wn ⟨rfl, bn⟩; have cn : Below wD.heap.size wD wn := HUB.out _ _ (by with_reducible assumption) bn; obtain ⟨⟨y0, y1, y2, y3, y4⟩, ⟨y5, y6, y7, y8, y9⟩, ya, yb⟩ := HCL.out _ cn)
      | (go_at_call 25; refine (smallC _).mono ?_; rintro e wn ⟨An, Ln, rfl, sn, bn⟩; have cn : Below wD.heap.size wD wn := HUB.out _ _ (by with_reducible assumption) bn; obtain ⟨⟨y0, y1, y2, y3, y4⟩, ⟨y5, y6, y7, y8, y9⟩, ya, yb⟩ := HCL.out _ cn)
      | (go_at_call 10; with_reducible refine (check1_small (by with_reducible assumption)).mono ?_; rintro e wn ⟨rfl, bn⟩; have cn : Below wD.heap.size wD wn := HUB.out _ _ (by with_reducible assumption) bn; obtain ⟨⟨y0, y1, y2, y3, y4⟩, ⟨y5, y6, y7, y8, y9⟩, ya, yb⟩ := HCL.out _ cn)
      | (go_at_call 10; with_reducible refine (check2_small (by with_reducible assumption)).mono ?_; rintro e wn ⟨rfl, bn⟩; have cn : Below wD.heap.size wD wn := HUB.out _ _ (by with_reducible assumption) bn; obtain ⟨⟨y0, y1, y2, y3, y4⟩, ⟨y5, y6, y7, y8, y9⟩, ya, yb⟩ := HCL.out _ cn)
      | (go_at_call 12; with_reducible refine (find9_small (by with_reducible assumption)).mono ?_; rintro e wn ⟨rfl, bn⟩; have cn : Below wD.heap.size wD wn := HUB.out _ _ (by with_reducible assumption) bn; obtain ⟨⟨y0, y1, y2, y3, y4⟩, ⟨y5, y6, y7, y8, y9⟩, ya, yb⟩ := HCL.out _ cn)
      | (go_at_call 12; with_reducible refine (find11_small (by with_reducible assumption)).mono ?_; rintro e wn ⟨rfl, bn⟩; have cn : Below wD.heap.size wD wn := HUB.out _ _ (by with_reducible assumption) bn; obtain ⟨⟨y0, y1, y2, y3, y4⟩, ⟨y5, y6, y7, y8, y9⟩, ya, yb⟩ := HCL.out _ cn)
      | fail)
  all_goals
    go_wp2
    go_ret
    exact ⟨rfl, HUP.out _ (by with_reducible assumption)⟩
end Go.Proofs.Ytjdidlbmgnfcdaa
