/- The walks of the document's Setup, Find, unlike (layer 9). -/
import Derived.Test.YtfokejlancmahaaGreatKb
import Derived.Test.YtfokejlancmahaaGreatKc
namespace Go.Proofs.YtfokejlancmahaaGreat
open Go.RowKit
set_option linter.unusedVariables false
/-- A setup that may be. -/
def setupB (d g b n m : Int) : Bool := decide (1 ≤ d ∧ d ≤ 64 ∧ 1 ≤ g ∧ g ≤ 32 ∧ 1 ≤ b ∧ b ≤ 256 ∧ 1 ≤ n ∧ n ≤ 1000 ∧ 1 ≤ m ∧ m ≤ 1000 ∧ m ≤ n)
set_option maxRecDepth 100000 in
set_option maxHeartbeats 4000000 in
theorem rSetup_any (d g b n m : Int) (w : World) :
    Calls Tryz.prog 95 #[.agg #[.int .i64 d, .int .i64 g, .int .i64 b, .int .i64 n, .int .i64 m]] w fun e w' => e = .returned (.bool (setupB d g b n m)) ∧ Below w.heap.size w w' := by
  have W0 := Whole.new w 26 #[.int .i64 d, .int .i64 g, .int .i64 b, .int .i64 n, .int .i64 m]
  have HB := Lib.hid (below_one (Below.refl w.heap.size w) (.cells #[.int .i64 d, .int .i64 g, .int .i64 b, .int .i64 n, .int .i64 m] 26))
  have p0 := W0.cell 0
  have p1 := W0.cell 1
  have p2 := W0.cell 2
  have p3 := W0.cell 3
  have p4 := W0.cell 4
  clear W0
  go_enter Tryz.func95, Tryz.ntmps95
  go_wp2
  all_goals
    go_ret
    refine ⟨retb ?_, HB.out⟩
    unfold setupB
    first
      | (symm; exact decide_eq_false (by omega))
      | (rw [Bool.eq_iff_iff]; simp only [decide_eq_true_eq]; omega)
/-- The place of the first node with that number. -/
def findI (G : List Pn) (id : Int) : Int := match G.findIdx? (fun x => x.1 == id) with
  | some k => (k : Int)
  | none => -1
theorem findI_at {G : List Pn} {id : Int} {k : Nat} (hk : k < G.length) (h : (nAt G k).1 = id) (hb : ∀ j, j < k → (nAt G j).1 ≠ id) : findI G id = k := by
  have e : G.findIdx? (fun x => x.1 == id) = some k := by
    rw [List.findIdx?_eq_some_iff_getElem]
    refine ⟨hk, ?_, fun j hj => ?_⟩
    · have : nAt G k = G[k] := nAt_get (List.getElem?_eq_getElem hk)
      rw [this] at h
      simpa using h
    · have : nAt G j = G[j]'(by omega) := nAt_get (List.getElem?_eq_getElem (by omega))
      have := hb j hj
      simp_all
  unfold findI
  rw [e]
theorem findI_none {G : List Pn} {id : Int} (h : ∀ j, j < G.length → (nAt G j).1 ≠ id) : findI G id = -1 := by
  have e : G.findIdx? (fun x => x.1 == id) = none := by
    rw [List.findIdx?_eq_none_iff]
    intro x hx
    obtain ⟨j, hj, rfl⟩ := List.getElem_of_mem hx
    have := h j hj
    rw [nAt_get (List.getElem?_eq_getElem hj)] at this
    simpa using this
  unfold findI
  rw [e]
theorem findI_lt (G : List Pn) (id : Int) : -1 ≤ findI G id ∧ findI G id < (G.length : Int) := by
  unfold findI
  split
  · rename_i k hk
    rw [List.findIdx?_eq_some_iff_getElem] at hk
    obtain ⟨h, _⟩ := hk
    omega
  · omega
set_option maxRecDepth 100000 in
set_option maxHeartbeats 4000000 in
theorem rFind_any (A : Option Addr) (c : Nat) (L : List Gn) (s id : Int) (w : World) (D : Nat) (hD : D ≤ w.heap.size) (hx : RdG w D A L) (hl : L.length ≤ 20000) :
    Calls Tryz.prog 36 #[.agg #[.slice A L.length c, .int .i64 s], .int .u64 id] w fun e w' => e = .returned (.int .i64 (findI (pns L) id)) ∧ Below w.heap.size w w' := by
  have W0 := Whole.new w 24 #[.slice A L.length c, .int .i64 s]
  have B0 : Below w.heap.size w (w.alloc (.cells #[.slice A L.length c, .int .i64 s] 24)) := below_one (Below.refl _ _) _
  have HX := Lib.hid (hx.below (B0.mono hD))
  have HL := Lib.hid (pns_len L)
  have p0 := W0.cell 0
  have HB0 := Lib.hid B0
  clear W0 B0 hx
  go_enter Tryz.func36, Tryz.ntmps36
  go_wp2
  obtain ⟨w1, ew1⟩ : ∃ w1, w.alloc (.cells #[.slice A L.length c, .int .i64 s] 24) = w1 := ⟨_, rfl⟩
  rw [ew1] at HX HB0 p0 ⊢
  obtain ⟨g, eg⟩ : ∃ g, w.heap.size = g := ⟨_, rfl⟩
  rw [eg] at p0 ⊢
  have p0' : w1.cell? ⟨g, 0, none⟩ = some (.slice A L.length c) := p0
  have HG := Lib.hid eg
  clear ew1 eg p0
  go_loopw [5] (fun i wr => ∃ k nq : Nat, k ≤ L.length ∧ i = .int .i64 k ∧ wr = w1.drewN nq ∧ Hid (∀ j, j < k → (nAt (pns L) j).1 ≠ id)) (fun i _ => L.length - (intOf i).toNat)
  case atStart => exact ⟨0, 0, by omega, rfl, rfl, Lib.hid (fun j hj => absurd hj (Nat.not_lt_zero _))⟩
  case round =>
    obtain ⟨k, nq, hk, rfl, rfl, HK⟩ := hrel
    by_cases hlt : k < L.length
    · have e1 : decide ((k : Int) < (L.length : Int)) = true := decide_eq_true (by omega)
      obtain ⟨b, off, id', a1, c1, v, a2, c2, o, rfl, hBb, h1, h2, h3, hr1, hr2, hv⟩ := HX.out.at_ hlt
      have x1 : (0 : Int) ≤ (k : Int) := by omega
      have x2 : (k : Int) < (L.length : Int) := by omega
      have en : (nAt (pns L) k).1 = id' := by rw [nAt_get (pns_at hv.out)]
      by_cases he : id' = id
      · subst he
        have HF := Lib.hid (findI_at (by rw [HL.out]; exact hlt) en HK.out)
        have e2 : (id' == id') = true := by simp
        clear en hv h2 h3 hr1 hr2
        go_wp2
        go_ret
        exact ⟨ret1 HF.out.symm, below_drewN HB0.out _⟩
      · have HN : Hid (∀ j, j < k + 1 → (nAt (pns L) j).1 ≠ id) := fun j hj => by
          rcases Nat.lt_or_ge j k with h | h
          · exact HK.out j h
          · obtain rfl : j = k := by omega
            rw [en]; exact he
        have e2 : (id' == id) = false := by simpa using he
        clear en hv h2 h3 hr1 hr2 he
        go_wp2
        go_roundw
        case rel => exact ⟨k + 1, _, by omega, by go_num, rfl, HN⟩
        case measure => simp [intOf]; omega
    · obtain rfl : k = L.length := by omega
      have e1 : decide ((L.length : Int) < (L.length : Int)) = false := decide_eq_false (by omega)
      have HF := Lib.hid (findI_none (G := pns L) (id := id) (fun j hj => HK.out j (by rw [HL.out] at hj; exact hj)))
      go_wp2
      go_ret
      exact ⟨ret1 HF.out.symm, below_drewN HB0.out _⟩
/-- Neighbours that are unlike, and others than the node itself. -/
def unlikeB (out : List Int) (at_ : Int) : Bool := decide ((∀ t ∈ out, t ≠ at_) ∧ out.Nodup)
theorem unlikeB_no1 {out : List Int} {a t : Int} {k : Nat} (h : out[k]? = some t) (he : t = a) : unlikeB out a = false := decide_eq_false (fun q => q.1 t (List.mem_of_getElem? h) he)
theorem unlikeB_no2 {out : List Int} {a t : Int} {j k : Nat} (h1 : out[j]? = some t) (h2 : out[k]? = some t) (hj : j < k) : unlikeB out a = false := decide_eq_false (fun q => by
  have hk : k < out.length := (List.getElem?_eq_some_iff.1 h2).1
  have hjl : j < out.length := by omega
  have := (List.pairwise_iff_getElem.1 q.2) j k hjl hk hj
  rw [List.getElem?_eq_getElem hjl] at h1
  rw [List.getElem?_eq_getElem hk] at h2
  simp only [Option.some.injEq] at h1 h2
  exact this (h1.trans h2.symm))
theorem unlikeB_yes {out : List Int} {a : Int} (h : ∀ (k : Nat) (t : Int), out[k]? = some t → t ≠ a ∧ ∀ (j : Nat) (u : Int), j < k → out[j]? = some u → u ≠ t) : unlikeB out a = true := decide_eq_true ⟨fun t ht => by
  obtain ⟨k, hk, rfl⟩ := List.getElem_of_mem ht
  exact (h k _ (List.getElem?_eq_getElem hk)).1, List.pairwise_iff_getElem.2 (fun i j hi hj hij => (h j _ (List.getElem?_eq_getElem hj)).2 i _ hij (List.getElem?_eq_getElem hi))⟩
set_option maxRecDepth 100000 in
set_option maxHeartbeats 4000000 in
theorem rUnlike_any (A : Option Addr) (c : Nat) (xs : List Int) (n : Nat) (hn : n = xs.length) (a : Int) (w : World) (D : Nat) (hx : Rd .i64 w D A xs) (hl : xs.length ≤ 1000000) :
    Calls Tryz.prog 97 #[.slice A n c, .int .i64 a] w fun e w' => e = .returned (.bool (unlikeB xs a)) ∧ ∃ nq, w' = w.drewN nq := by
  subst hn
  go_enter Tryz.func97, Tryz.ntmps97
  go_wp2
  go_loopw [5] (fun i wr => ∃ k nq : Nat, k ≤ xs.length ∧ i = .int .i64 k ∧ wr = w.drewN nq ∧ Hid (∀ (m : Nat) (t : Int), m < k → xs[m]? = some t → t ≠ a ∧ ∀ (j : Nat) (u : Int), j < m → xs[j]? = some u → u ≠ t)) (fun i _ => xs.length - (intOf i).toNat)
  case atStart => exact ⟨0, 0, by omega, rfl, rfl, Lib.hid (fun m t hm => absurd hm (Nat.not_lt_zero _))⟩
  case round =>
    obtain ⟨k, nq, hk, rfl, rfl, HK⟩ := hrel
    by_cases hlt : k < xs.length
    · have e1 : decide ((k : Int) < (xs.length : Int)) = true := decide_eq_true (by omega)
      obtain ⟨b, off, t, rfl, hBb, hck, hv⟩ := hx.at_ hlt
      have ek : xs[k]? = some t := by rw [← hv.out, List.getElem?_eq_getElem hlt]; rfl
      have EK := Lib.hid ek
      have x1 : (0 : Int) ≤ (k : Int) := by omega
      have x2 : (k : Int) < (xs.length : Int) := by omega
      by_cases he : t = a
      · have HF := Lib.hid (unlikeB_no1 ek he)
        have e2 : (t == a) = true := by simpa using he
        clear he ek hv
        go_wp2
        go_ret
        exact ⟨retb HF.out.symm, _, rfl⟩
      · have e2 : (t == a) = false := by simpa using he
        have HE := Lib.hid he
        clear he ek hv
        go_wp2
        go_loopw [6] (fun i w2 => ∃ j mq : Nat, j ≤ k ∧ i = .int .i64 j ∧ w2 = w.drewN mq ∧ Hid (∀ (m : Nat) (u : Int), m < j → xs[m]? = some u → u ≠ t)) (fun i _ => k - (intOf i).toNat)
        case atStart => exact ⟨0, nq, by omega, rfl, rfl, Lib.hid (fun m u hm => absurd hm (Nat.not_lt_zero _))⟩
        case round =>
          obtain ⟨j, mq, hj, rfl, rfl, HJ⟩ := hrel
          by_cases hjk : j < k
          · have f1 : decide ((j : Int) < (k : Int)) = true := decide_eq_true (by omega)
            obtain ⟨b', off', u, eA, hBb', hcj, hvj⟩ := hx.at_ (i := j) (by omega)
            simp only [Option.some.injEq, Addr.mk.injEq, and_true] at eA
            obtain ⟨rfl, rfl⟩ := eA
            have ej : xs[j]? = some u := by rw [← hvj.out, List.getElem?_eq_getElem (by omega)]; rfl
            have EJ := Lib.hid ej
            have y1 : (0 : Int) ≤ (j : Int) := by omega
            have y2 : (j : Int) < (xs.length : Int) := by omega
            by_cases hu : u = t
            · have HF := Lib.hid (unlikeB_no2 (a := a) ej (hu ▸ EK.out) hjk)
              have f2 : (u == t) = true := by simpa using hu
              clear hu ej hvj
              go_wp2
              go_quiet (fail)
              go_wp2
              go_ret
              exact ⟨retb HF.out.symm, _, World.drewN_drewN ..⟩
            · have f2 : (u == t) = false := by simpa using hu
              have HN : Hid (∀ (m : Nat) (u : Int), m < j + 1 → xs[m]? = some u → u ≠ t) := fun m z hm hz => by
                rcases Nat.lt_or_ge m j with h | h
                · exact HJ.out m z h hz
                · obtain rfl : m = j := by omega
                  rw [EJ.out] at hz
                  simp only [Option.some.injEq] at hz
                  rw [← hz]; exact hu
              clear hu ej hvj
              go_wp2
              go_quiet (fail)
              go_wp2
              go_roundw
              case rel => exact ⟨j + 1, _, by omega, by go_num, rfl, HN⟩
              case measure => simp [intOf]; omega
          · obtain rfl : j = k := by omega
            have f1 : decide ((j : Int) < (j : Int)) = false := decide_eq_false (by omega)
            have HN : Hid (∀ (m : Nat) (t : Int), m < j + 1 → xs[m]? = some t → t ≠ a ∧ ∀ (i : Nat) (u : Int), i < m → xs[i]? = some u → u ≠ t) := fun m z hm hz => by
              rcases Nat.lt_or_ge m j with h | h
              · exact HK.out m z h hz
              · obtain rfl : m = j := by omega
                rw [EK.out] at hz
                simp only [Option.some.injEq] at hz
                subst hz
                exact ⟨HE.out, fun i u hi hu => HJ.out i u hi hu⟩
            go_wp2
            go_roundw
            case rel => exact ⟨j + 1, _, by omega, by go_num, rfl, HN⟩
            case measure => simp [intOf]; omega
    · obtain rfl : k = xs.length := by omega
      have e1 : decide ((xs.length : Int) < (xs.length : Int)) = false := decide_eq_false (by omega)
      have HF := Lib.hid (unlikeB_yes (out := xs) (a := a) (fun k t h => HK.out k t (List.getElem?_eq_some_iff.1 h).1 h))
      go_wp2
      go_ret
      exact ⟨retb HF.out.symm, _, rfl⟩
end Go.Proofs.YtfokejlancmahaaGreat
