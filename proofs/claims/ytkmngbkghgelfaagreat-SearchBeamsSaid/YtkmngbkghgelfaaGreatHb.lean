/- Several texts in one. -/
import Derived.Test.YtkmngbkghgelfaaGreatVu
/- The mathematics of a binary heap of hits, the worst first: what up and down keep, and what stands at the root. -/
namespace Go.Proofs.YtkmngbkghgelfaaGreat
open Go.Sort
set_option linter.unusedVariables false
abbrev HA := Array (Int × Int)
/-- No hit is farther than the one above it. -/
def Hp (d : HA) (m : Nat) : Prop := ∀ k, 0 < k → k < m → ltH d[(k - 1) / 2]! d[k]! = false
/-- .. but at i itself, against what is below it; what is below it is no farther than what is above it. -/
def DnBut (d : HA) (m i : Nat) : Prop := (∀ k, 0 < k → k < m → (k - 1) / 2 ≠ i → ltH d[(k - 1) / 2]! d[k]! = false) ∧ (0 < i → ∀ k, 0 < k → k < m → (k - 1) / 2 = i → ltH d[(i - 1) / 2]! d[k]! = false)
/-- .. but at j itself, against what is above it. -/
def UpBut (d : HA) (m j : Nat) : Prop := (∀ k, 0 < k → k < m → k ≠ j → ltH d[(k - 1) / 2]! d[k]! = false) ∧ (0 < j → ∀ k, 0 < k → k < m → (k - 1) / 2 = j → ltH d[(j - 1) / 2]! d[k]! = false)
theorem le_of_lt {x y : Int × Int} (h : ltH x y = true) : ltH y x = false := by
  cases h2 : ltH y x with
  | false => rfl
  | true => have := swoH.trans _ _ _ h h2; rw [swoH.irrefl] at this; cases this
theorem swp_at (d : HA) {i j : Nat} (hi : i < d.size) (hj : j < d.size) (k : Nat) : (swp d i j)[k]! = if k = i then d[j]! else if k = j then d[i]! else d[k]! := by
  by_cases h1 : k = i
  · subst h1
    rw [if_pos rfl]
    by_cases h2 : k = j
    · subst h2; exact swp_right d k k hj
    · exact swp_left d k j hi h2
  · rw [if_neg h1]
    by_cases h2 : k = j
    · subst h2; rw [if_pos rfl]; exact swp_right d i k hj
    · rw [if_neg h2]; exact swp_other d i j k h1 h2
theorem Hp.root {d : HA} {m : Nat} (h : Hp d m) : ∀ k, k < m → ltH d[0]! d[k]! = false := by
  intro k
  induction k using Nat.strongRecOn with
  | ind k ih =>
    intro hk
    rcases Nat.eq_zero_or_pos k with h0 | h0
    · subst h0; exact swoH.irrefl _
    · exact swoH.ntrans _ _ _ (ih ((k - 1) / 2) (by omega) (by omega)) (h k h0 hk)
/-- The walk up starts: one hit came at the end. -/
theorem UpBut.start {d d' : HA} {m : Nat} (h : Hp d m) (he : ∀ k, k < m → d'[k]! = d[k]!) : UpBut d' (m + 1) m :=
  ⟨fun k h1 h2 h3 => by rw [he k (by omega), he _ (by omega)]; exact h k h1 (by omega), fun h0 k h1 h2 h3 => by omega⟩
theorem UpBut.stop0 {d : HA} {m : Nat} (h : UpBut d m 0) : Hp d m := fun k h1 h2 => h.1 k h1 h2 (by omega)
theorem UpBut.stop {d : HA} {m j : Nat} (h : UpBut d m j) (hl : ltH d[(j - 1) / 2]! d[j]! = false) : Hp d m := fun k h1 h2 => by
  by_cases e : k = j
  · subst e; exact hl
  · exact h.1 k h1 h2 e
theorem UpBut.step {d : HA} {m j : Nat} (h : UpBut d m j) (hj : 0 < j) (hjm : j < m) (hm : m ≤ d.size) (hl : ltH d[(j - 1) / 2]! d[j]! = true) : UpBut (swp d ((j - 1) / 2) j) m ((j - 1) / 2) := by
  have hi : (j - 1) / 2 < j := by omega
  have sw := swp_at d (i := (j - 1) / 2) (j := j) (by omega) (by omega)
  refine ⟨fun k h1 h2 h3 => ?_, fun h0 k h1 h2 h3 => ?_⟩
  · rw [sw k, if_neg h3, sw]
    by_cases hk : k = j
    · subst hk
      rw [if_pos rfl, if_pos rfl]
      exact le_of_lt hl
    · rw [if_neg hk]
      by_cases hp : (k - 1) / 2 = (j - 1) / 2
      · rw [if_pos hp]
        have := h.1 k h1 h2 hk
        rw [hp] at this
        exact swoH.ntrans _ _ _ (le_of_lt hl) this
      · rw [if_neg hp]
        by_cases hq : (k - 1) / 2 = j
        · rw [if_pos hq]; exact h.2 hj k h1 h2 hq
        · rw [if_neg hq]; exact h.1 k h1 h2 hk
  · have g1 : ((j - 1) / 2 - 1) / 2 ≠ (j - 1) / 2 := by omega
    have g2 : ((j - 1) / 2 - 1) / 2 ≠ j := by omega
    have ha := h.1 ((j - 1) / 2) h0 (by omega) (by omega)
    rw [sw (((j - 1) / 2 - 1) / 2), if_neg g1, if_neg g2, sw k, if_neg (by omega)]
    by_cases hk : k = j
    · rw [if_pos hk]; exact ha
    · rw [if_neg hk]
      have := h.1 k h1 h2 hk
      rw [h3] at this
      exact swoH.ntrans _ _ _ ha this
/-- The walk down starts: the last hit stands at the root. -/
theorem DnBut.start {d d' : HA} {m m' : Nat} (h : Hp d m') (hm : m ≤ m') (he : ∀ k, 0 < k → k < m → d'[k]! = d[k]!) : DnBut d' m 0 :=
  ⟨fun k h1 h2 h3 => by rw [he k h1 h2, he _ (by omega) (by omega)]; exact h k h1 (by omega), fun h0 => by omega⟩
theorem DnBut.stop0 {d : HA} {m i : Nat} (h : DnBut d m i) (hi : m ≤ 2 * i + 1) : Hp d m := fun k h1 h2 => h.1 k h1 h2 (by omega)
/-- j is the farther one of the two below i. -/
def Far (d : HA) (m i j : Nat) : Prop := (j = 2 * i + 1 ∨ j = 2 * i + 2) ∧ j < m ∧ ∀ k, 0 < k → k < m → (k - 1) / 2 = i → ltH d[j]! d[k]! = false
theorem Far.one {d : HA} {m i : Nat} (h1 : 2 * i + 1 < m) (h2 : m ≤ 2 * i + 2) : Far d m i (2 * i + 1) :=
  ⟨.inl rfl, h1, fun k a b c => by obtain rfl : k = 2 * i + 1 := by omega
                                   exact swoH.irrefl _⟩
theorem Far.left {d : HA} {m i : Nat} (h1 : 2 * i + 2 < m) (hl : ltH d[2 * i + 1]! d[2 * i + 2]! = false) : Far d m i (2 * i + 1) :=
  ⟨.inl rfl, by omega, fun k a b c => by
    have : k = 2 * i + 1 ∨ k = 2 * i + 2 := by omega
    rcases this with rfl | rfl
    · exact swoH.irrefl _
    · exact hl⟩
theorem Far.right {d : HA} {m i : Nat} (h1 : 2 * i + 2 < m) (hl : ltH d[2 * i + 1]! d[2 * i + 2]! = true) : Far d m i (2 * i + 2) :=
  ⟨.inr rfl, by omega, fun k a b c => by
    have : k = 2 * i + 1 ∨ k = 2 * i + 2 := by omega
    rcases this with rfl | rfl
    · exact le_of_lt hl
    · exact swoH.irrefl _⟩
theorem DnBut.stop {d : HA} {m i j : Nat} (h : DnBut d m i) (hf : Far d m i j) (hl : ltH d[i]! d[j]! = false) : Hp d m := fun k h1 h2 => by
  by_cases e : (k - 1) / 2 = i
  · rw [e]; exact swoH.ntrans _ _ _ hl (hf.2.2 k h1 h2 e)
  · exact h.1 k h1 h2 e
theorem DnBut.step {d : HA} {m i j : Nat} (h : DnBut d m i) (hf : Far d m i j) (hm : m ≤ d.size) (hl : ltH d[i]! d[j]! = true) : DnBut (swp d i j) m j := by
  obtain ⟨hj, hjm, hk0⟩ := hf
  have sw := swp_at d (i := i) (j := j) (by omega) (by omega)
  refine ⟨fun k h1 h2 h3 => ?_, fun h0 k h1 h2 h3 => ?_⟩
  · rw [sw k, sw]
    by_cases hp : (k - 1) / 2 = i
    · rw [if_pos hp, if_neg (by omega)]
      by_cases hk : k = j
      · rw [if_pos hk]; exact le_of_lt hl
      · rw [if_neg hk]; exact hk0 k h1 h2 hp
    · rw [if_neg hp, if_neg h3]
      by_cases hk : k = i
      · rw [if_pos hk]
        subst hk
        exact h.2 h1 j (by omega) hjm (by omega)
      · rw [if_neg hk, if_neg (by omega)]
        exact h.1 k h1 h2 hp
  · have e1 : (j - 1) / 2 = i := by omega
    rw [e1, sw i, if_pos rfl, sw k, if_neg (by omega), if_neg (by omega)]
    have := h.1 k h1 h2 (by omega)
    rwa [h3] at this
end Go.Proofs.YtkmngbkghgelfaaGreat
/- The walks of the list that a heap hands to the library (Len, Less, Swap). -/
namespace Go.Proofs.YtkmngbkghgelfaaGreat
open Go.Shelf Go.RowKit Go.Lib Go.Sort
set_option linter.unusedVariables false
theorem rowK2 {w0 : World} {g : Nat} {d0 : HA} (h : HoldsK encH 2 w0 g 0 d0) (hg : g < w0.heap.size) : RowK encH 2 w0 g 0 d0 := ⟨encH_len, encH_one, h, hg⟩
theorem wLen_any (v : Option Addr) (n c : Nat) (w : World) : Calls Tryz.prog 172 #[.slice v n c] w fun e w' => e = .returned (.int .i64 n) ∧ w' = w := by
  go_enter Tryz.func172, Tryz.ntmps172
  go_wp2
  go_ret
  exact ⟨rfl, rfl⟩
theorem grow2o (w : World) (o1 o2 : Obj) : (w.alloc o1).alloc o2 = grow w #[o1, o2] := by rw [alloc_eq_grow, alloc_eq_grow, grow_grow]; rfl
theorem less_grown (x y : Int × Int) (w : World) (n : Nat) (os : Array Obj) :
    Calls Tryz.prog 126 #[.agg #[.int .u64 x.1, .int .i64 x.2], .agg #[.int .u64 y.1, .int .i64 y.2]] (grow (w.drewN n) os) fun e w' => e = .returned (.bool (ltH x y)) ∧ ∃ q os', w' = grow ((grow (w.drewN n) os).drewN q) os' :=
  (less_any x.1 x.2 y.1 y.2 _).mono fun e w' h => ⟨h.1, 0, _, h.2.trans (grow2o _ _ _)⟩
theorem cellsH {w : World} {g : Nat} {dk : HA} (h : HoldsK encH 2 w g 0 dk) {i : Nat} (hi : i < dk.size) : w.cell? ⟨g, i * 2, none⟩ = some (.int .u64 dk[i]!.1) ∧ w.cell? ⟨g, i * 2 + 1, none⟩ = some (.int .i64 dk[i]!.2) := by
  have h0 := (h (i * 2) (by rw [size_flatK]; omega)).1
  have h1 := (h (i * 2 + 1) (by rw [size_flatK]; omega)).1
  rw [Nat.zero_add, get_flatK encH 2 dk _ (by omega)] at h0 h1
  rw [show i * 2 / 2 = i by omega, show i * 2 % 2 = 0 by omega] at h0
  rw [show (i * 2 + 1) / 2 = i by omega, show (i * 2 + 1) % 2 = 1 by omega] at h1
  exact ⟨h0, h1⟩
theorem SWK.cells {w0 w : World} {g : Nat} {d0 dk : HA} (S : SWK encH 2 w0 g 0 dk w) (R : RowK encH 2 w0 g 0 d0) (hs : dk.size = d0.size) {i : Nat} (hi : i < dk.size) (n : Nat) (os : Array Obj) :
    (grow (w.drewN n) os).cell? ⟨g, i * 2, none⟩ = some (.int .u64 dk[i]!.1) ∧ (grow (w.drewN n) os).cell? ⟨g, i * 2 + 1, none⟩ = some (.int .i64 dk[i]!.2) :=
  cellsH ((S.grown n os).holds R.hblk R.hH hs) hi
set_option maxHeartbeats 1000000 in
set_option maxRecDepth 100000 in
theorem wLess_any (g n c i j : Nat) (d0 dk : HA) (w0 w : World) (R : RowK encH 2 w0 g 0 d0) (hs : dk.size = d0.size) (S : SWK encH 2 w0 g 0 dk w) (hn : n ≤ dk.size) (hi : i < n) (hj : j < n) :
    Calls Tryz.prog 173 #[.slice (some ⟨g, 0, none⟩) n c, .int .i64 i, .int .i64 j] w fun e w' => e = .returned (.bool (ltH dk[j]! dk[i]!)) ∧ ∃ q os, w' = grow (w.drewN q) os := by
  have mixed : Tryz.prog.follows .mixedOrders = true := by kernel_rfl
  have zi := (show (0 : Int) ≤ (i : Int) by omega)
  have zj := (show (0 : Int) ≤ (j : Int) by omega)
  have bi := (show (i : Int) < (n : Int) by omega)
  have bj := (show (j : Int) < (n : Int) by omega)
  have li := fun n' os' => (SWK.cells S R hs (i := i) (by omega) n' os').1
  have li' := fun n' os' => (SWK.cells S R hs (i := i) (by omega) n' os').2
  have lj := fun n' os' => (SWK.cells S R hs (i := j) (by omega) n' os').1
  have lj' := fun n' os' => (SWK.cells S R hs (i := j) (by omega) n' os').2
  have hcg := Lib.hid (fun n' os' => less_grown dk[j]! dk[i]! w n' os')
  clear S R
  generalize ltH dk[j]! dk[i]! = B at hcg ⊢
  go_enter Tryz.func173, Tryz.ntmps173
  go_wp2_with fail
  refine wp_region_quiet_grown mixed (by kernel_rfl) ?_
  repeat (go_big_quiet_step (first | (go_at_call 126; with_reducible refine Calls.grown_of (hcg.out _ _))))
  refine wpQuiet_nil ?_
  intro _ hw'
  obtain ⟨⟨nq', osq⟩, hw''⟩ := hw'
  subst hw''
  go_wp2
  go_ret
  exact ⟨rfl, _, _, rfl⟩
/-- What is asked of a program for the exchange: this body, the types that it speaks of; an element fills k cells. -/
structure SwLays (P : Program) (k : Nat) : Prop where
  mixed : P.follows .mixedOrders = true
  f : P.funcs[174]? = some Tryz.f174
  t0 : P.underlying 0 = some (TypeDesc.tuple #[])
  a0 : ∀ w, (isAgg 0).run P w = .ok false w
  z0 : ∀ w, (Go.sizeOf 0).run P w = .ok 1 w
  v0 : ∀ w, (zeroValue 0).run P w = .ok (Value.tuple #[]) w
  t3 : P.underlying 3 = some (TypeDesc.int .i64)
  a3 : ∀ w, (isAgg 3).run P w = .ok false w
  z3 : ∀ w, (Go.sizeOf 3).run P w = .ok 1 w
  v3 : ∀ w, (zeroValue 3).run P w = .ok (Value.int .i64 0) w
  tL : P.underlying 100 = some (TypeDesc.slice 78)
  aL : ∀ w, (isAgg 100).run P w = .ok false w
  zL : ∀ w, (Go.sizeOf 100).run P w = .ok 1 w
  vL : ∀ w, (zeroValue 100).run P w = .ok (Value.slice none 0 0) w
  aE : ∀ w, (isAgg 78).run P w = .ok true w
  zE : ∀ w, (Go.sizeOf 78).run P w = .ok k w
theorem swLays : SwLays Tryz.prog 2 where
  mixed := by kernel_rfl
  f := Tryz.func174
  t0 := Tryz.underlying0
  a0 := Tryz.isAgg0
  z0 := Tryz.sizeOf0
  v0 := Tryz.zeroValue0
  t3 := Tryz.underlying3
  a3 := Tryz.isAgg3
  z3 := Tryz.sizeOf3
  v3 := Tryz.zeroValue3
  tL := Tryz.underlying100
  aL := Tryz.isAgg100
  zL := Tryz.sizeOf100
  vL := Tryz.zeroValue100
  aE := Tryz.isAgg78
  zE := Tryz.sizeOf78
set_option maxHeartbeats 1000000 in
set_option maxRecDepth 100000 in
theorem wSwapK {P : Program} {α : Type} [Inhabited α] {enc : α → List Value} {k : Nat} (L : SwLays P k) (g n c i j : Nat) (d0 dk : Array α) (w0 w : World) (R : RowK enc k w0 g 0 d0) (hs : dk.size = d0.size) (S : SWK enc k w0 g 0 dk w) (hn : n ≤ dk.size) (hi : i < n) (hj : j < n) :
    Calls P 174 #[.slice (some ⟨g, 0, none⟩) n c, .int .i64 i, .int .i64 j] w fun e w' => e = .returned (.tuple #[]) ∧ SWK enc k w0 g 0 (swp dk i j) w' := by
  have mixed := L.mixed; have t0 := L.t0; have a0 := L.a0; have z0 := L.z0; have v0 := L.v0; have t3 := L.t3; have a3 := L.a3; have z3 := L.z3; have v3 := L.v3; have tL := L.tL; have aL := L.aL; have zL := L.zL; have vL := L.vL; have uL := run_underlying L.tL; have aE := L.aE; have zE := L.zE
  have zi := (show (0 : Int) ≤ (i : Int) by omega)
  have zj := (show (0 : Int) ≤ (j : Int) by omega)
  have bi := (show (i : Int) < (n : Int) by omega)
  have bj := (show (j : Int) < (n : Int) by omega)
  have S2 : Aside (SWK enc k w0 g 0 (swp dk i j) ((w.drew.setCells g (0 + i * k) (enc dk[j]!)).setCells g (0 + j * k) (enc dk[i]!))) := S.swapped R i j (by omega) (by omega)
  have la := S.ld1 R hs P i (by omega)
  have lb := S.ld1 R hs P j (by omega)
  have sa := S.st1 R hs P i (by omega) dk[j]!
  have sb := S.st2 R hs P i j (by omega) (by omega) dk[j]! dk[i]!
  simp only [Nat.zero_add] at la lb sa sb S2
  have na : (enc dk[i]!).length = k := R.hk _
  have nb : (enc dk[j]!).length = k := R.hk _
  clear S R
  generalize enc dk[i]! = cI at S2 la sb na
  generalize enc dk[j]! = cJ at S2 lb sa sb nb
  go_enter L.f, Tryz.ntmps174
  go_wp2_with fail
  go_big_region_o
  clear la lb sa sb
  go_wp2
  go_end0
  exact ⟨rfl, S2⟩
theorem wSwap_any (g n c i j : Nat) (d0 dk : HA) (w0 w : World) (R : RowK encH 2 w0 g 0 d0) (hs : dk.size = d0.size) (S : SWK encH 2 w0 g 0 dk w) (hn : n ≤ dk.size) (hi : i < n) (hj : j < n) :
    Calls Tryz.prog 174 #[.slice (some ⟨g, 0, none⟩) n c, .int .i64 i, .int .i64 j] w fun e w' => e = .returned (.tuple #[]) ∧ SWK encH 2 w0 g 0 (swp dk i j) w' := wSwapK swLays g n c i j d0 dk w0 w R hs S hn hi hj
end Go.Proofs.YtkmngbkghgelfaaGreat
