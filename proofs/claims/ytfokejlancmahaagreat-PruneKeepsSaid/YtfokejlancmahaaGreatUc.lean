/- Pruning: apart, mayAsk, Domination (the program's), and the document's Domination. -/
import Derived.Test.YtfokejlancmahaaGreatUb
import Derived.Test.YtfokejlancmahaaGreatKk
import Derived.Test.YtfokejlancmahaaGreatKj
import Derived.Deep.RegionHeld3
import Derived.BigQuiet
import Derived.Deep.Cut
namespace Go.Proofs.YtfokejlancmahaaGreat
open Go.RowKit Go.Lib
set_option linter.unusedVariables false
set_option linter.unusedSimpArgs false
theorem fI_bd {G : List Pn} {d : Nat} (hP : PG G d) {a b : Nat} (ha : a < G.length) (hb : b < G.length) : 0 ≤ fI G a b ∧ fI G a b ≤ 4161600 := by
  unfold fI far
  have h := farL_bd ((nAt G a).2.1.zip (nAt G b).2.1) (zip_bd (hP.num a ha) (hP.num b hb))
  have l1 := hP.each a ha
  have l2 := hP.each b hb
  have hd := hP.dim
  have hl : (((nAt G a).2.1.zip (nAt G b).2.1).length : Int) ≤ 64 := by rw [List.length_zip]; omega
  refine ⟨h.1, Int.le_trans h.2 ?_⟩
  omega
set_option maxRecDepth 100000 in
set_option maxHeartbeats 2000000 in
theorem apartQ_any (A : Option Addr) (c n : Nat) (L : List Gn) (hn : n = L.length) (dm : Nat) (hP : PG (pns L) dm) (a b : Nat) (ha : a < L.length) (hb : b < L.length) (w : World) (D : Nat) (hD : D ≤ w.heap.size) (hx : RdG w D A L) :
    Calls Tryz.prog 89 #[.slice A n c, .int .i64 (a : Int), .int .i64 (b : Int)] w fun e w' => e = .returned (.int .i64 (fI (pns L) a b)) ∧ Below w.heap.size w w' := by
  have hlp := pns_len L
  obtain ⟨bb, off, id1, a1, c1, v, a2, c2, o, rfl, hB, h1, h2, h3, hr1, hr2, hv⟩ := hx.at_ ha
  obtain ⟨bb', off', id2, a3, c3, v', a4, c4, o', e', hB', h1', h2', h3', hr1', hr2', hv'⟩ := hx.at_ hb
  cases e'
  have E1 := nAt_get (pns_at hv.out)
  have E2 := nAt_get (pns_at hv'.out)
  have l1 := hP.each a (by omega)
  have l2 := hP.each b (by omega)
  have n1 := hP.num a (by omega)
  have n2 := hP.num b (by omega)
  have hd := hP.dim
  have hl2 := hP.len
  rw [E1] at l1 n1
  rw [E2] at l2 n2
  simp only at l1 l2 n1 n2
  have EF := Lib.hid (show fI (pns L) a b = far v v' by unfold fI; rw [E1, E2])
  have HCL : ∀ W, Below w.heap.size w W → W.cell? ⟨bb, off + a * 3 + 1, none⟩ = some (.slice a1 v.length c1) ∧ W.cell? ⟨bb, off + b * 3 + 1, none⟩ = some (.slice a3 v'.length c3) := fun W h => ⟨((h.mono hD).cell (p := ⟨bb, off + a * 3 + 1, none⟩) hB).trans h2, ((h.mono hD).cell (p := ⟨bb, off + b * 3 + 1, none⟩) hB).trans h2'⟩
  have HC := Lib.hid (fun W (h : Below w.heap.size w W) => (dist_yes a1 a3 c1 c3 v v' (by omega) (by omega) (by omega) v'.length (by omega) W ((hr1.below (h.mono hD)).more (Nat.le_trans hD h.size)) ((hr1'.below (h.mono hD)).more (Nat.le_trans hD h.size)) n1 n2).mono fun e w' q => (⟨q.1, q.2, HCL w' (h.trans (q.2.mono h.size))⟩ : e = .returned (.tuple #[.int .i64 (far v v'), .int .i64 0]) ∧ Below W.heap.size W w' ∧ w'.cell? ⟨bb, off + a * 3 + 1, none⟩ = some (.slice a1 v.length c1) ∧ w'.cell? ⟨bb, off + b * 3 + 1, none⟩ = some (.slice a3 v'.length c3)))
  have hdr : Below w.heap.size w w.drew := (Below.refl _ _).drew
  have x1 : (0 : Int) ≤ (a : Int) := by omega
  have x2 : (a : Int) < (n : Int) := by omega
  have x3 : (0 : Int) ≤ (b : Int) := by omega
  have x4 : (b : Int) < (n : Int) := by omega
  have hn2 : n ≤ 2048 := by omega
  have j1 : w.drew.cell? ⟨bb, off + a * 3 + 1, none⟩ = some (.slice a1 v.length c1) := h2
  have j2 : w.drew.cell? ⟨bb, off + b * 3 + 1, none⟩ = some (.slice a3 v'.length c3) := h2'
  clear h1 h2 h3 hr1 hr2 hv h1' h2' h3' hr1' hr2' hv' E1 E2 l1 l2 n1 n2 hd hl2 hP hlp ha hb hx hn HCL
  rw [EF.out]
  go_enter Tryz.func89, Tryz.ntmps89
  go_wp2
  go_region_held3 (fun w' => w'.cell? ⟨bb, off + a * 3 + 1, none⟩ = some (.slice a1 v.length c1) ∧ w'.cell? ⟨bb, off + b * 3 + 1, none⟩ = some (.slice a3 v'.length c3))
    (first | exact ⟨by with_reducible assumption, by with_reducible assumption⟩)
    (first
      | (go_at_call 132; (with_reducible refine (HC.out _ (by with_reducible assumption)).mono ?_); rintro e w2 ⟨rfl, b2, y1, y2⟩)
      | fail)
  all_goals
    clear y1 y2
    go_wp2
    go_ret
    exact ⟨rfl, hdr.trans (b2.mono hdr.size)⟩

theorem PG_of {G : List Pn} {s d deg b n m : Int} (h : checkB G s d deg b n m = true) (ok : ∀ x ∈ G, PnOk x) : PG G d.toNat := by
  unfold checkB at h
  simp only [Bool.and_eq_true] at h
  have hs := of_decide_eq_true h.1
  have hh := holdsB_yes h.2.1
  have hn := of_decide_eq_true h.2.2
  refine ⟨by omega, hh.1, fun i hi => ?_, fun i hi => (ok _ (nAt_mem hi)).2.1, fun i hi => ⟨(ok _ (nAt_mem hi)).1.1, (hn i hi).1⟩, fun i j hi hj e => ?_⟩
  · have := (hn i hi).2.1; omega
  · have h1 := (hn i hi).2.2.2.2
    have h2 := (hn j hj).2.2.2.2
    rw [e, h2] at h1; omega
def inG (n : Nat) (p : Int) : Bool := decide (0 ≤ p ∧ p < (n : Int))
/-- May Keep and Domination be asked? -/
def askB (G : List Pn) (s d deg b n m at_ : Int) (P : List Int) : Bool := checkB G s d deg b n m && inG G.length at_ && P.all (inG G.length)
theorem askB_yes {G : List Pn} {s d deg b n m at_ : Int} {P : List Int} (h : askB G s d deg b n m at_ P = true) : checkB G s d deg b n m = true ∧ (0 ≤ at_ ∧ at_ < (G.length : Int)) ∧ ∀ p ∈ P, 0 ≤ p ∧ p < (G.length : Int) := by
  unfold askB at h
  simp only [Bool.and_eq_true] at h
  exact ⟨h.1.1, of_decide_eq_true h.1.2, fun p hp => of_decide_eq_true (List.all_eq_true.1 h.2 p hp)⟩
set_option maxRecDepth 100000 in
set_option maxHeartbeats 4000000 in
theorem mayAsk_any (A : Option Addr) (c : Nat) (L : List Gn) (s d deg b n m at_ : Int) (B : Option Addr) (q k : Nat) (P : List Int) (hq : q = P.length) (w : World) (hx : GArg w A L) (hroom : ∀ x ∈ L, x.2.2.2.2.length ≤ x.2.2.2.1) (hp : Rd .i64 w w.heap.size B P) (hP : P.length ≤ 140737488355328) :
    Calls Tryz.prog 29 #[.agg #[.slice A L.length c, .int .i64 s], .agg #[.int .i64 d, .int .i64 deg, .int .i64 b, .int .i64 n, .int .i64 m], .int .i64 at_, .slice B q k] w fun e w' => e = .returned (.bool (askB (pns L) s d deg b n m at_ P)) ∧ Below w.heap.size w w' := by
  have HLN := Lib.hid (pns_len L)
  have B0 : Below w.heap.size w ((w.alloc (.cells #[.slice A L.length c, .int .i64 s] 24)).alloc (.cells #[.int .i64 d, .int .i64 deg, .int .i64 b, .int .i64 n, .int .i64 m] 26)) := below_one (below_one (Below.refl _ _) _) _
  have HW0 := Lib.hid ((Whole.new w 24 #[.slice A L.length c, .int .i64 s]).alloc (.cells #[.int .i64 d, .int .i64 deg, .int .i64 b, .int .i64 n, .int .i64 m] 26))
  have HB0 := Lib.hid B0
  have C1 := check_any A c L s d deg b n m _ (hx.below B0) hroom
  have HP := Lib.hid hp
  have EA := Lib.hid (show askB (pns L) s d deg b n m at_ P = (checkB (pns L) s d deg b n m && inG (pns L).length at_ && P.all (inG (pns L).length)) from rfl)
  have hL : L.length ≤ 20000 := by have := hx.sm.len; rwa [pns_len] at this
  subst hq
  clear B0 hx hroom hp
  go_enter Tryz.func29, Tryz.ntmps29
  go_wp2_with fail
  obtain ⟨w1, ew1⟩ : ∃ w1, (w.alloc (.cells #[.slice A L.length c, .int .i64 s] 24)).alloc (.cells #[.int .i64 d, .int .i64 deg, .int .i64 b, .int .i64 n, .int .i64 m] 26) = w1 := ⟨_, rfl⟩
  rw [ew1] at HW0 HB0 C1 ⊢
  obtain ⟨g, eg⟩ : ∃ g, w.heap.size = g := ⟨_, rfl⟩
  rw [eg] at HW0 ⊢
  have HG := Lib.hid eg
  clear ew1 eg
  refine C1.mono ?_
  rintro e w2 ⟨rfl, b2⟩
  dsimp only
  have HB2 := Lib.hid (HB0.out.trans (b2.mono HB0.out.size))
  have Z2 := HW0.out.below b2 HW0.out.lt
  have HZ2 := Lib.hid Z2
  have y0 := Z2.cell 0
  clear Z2 b2 HB0 HW0 C1
  cases hc : checkB (pns L) s d deg b n m with
  | false =>
    rw [hc] at EA
    go_wp2
    go_ret
    exact ⟨retq (by rw [EA.out]; rfl), HB2.out⟩
  | true =>
    rw [hc] at EA
    have C2 := isPlaceQ_any at_ (L.length : Int)
    rw [HLN.out] at EA
    cases hi : decide (0 ≤ at_ ∧ at_ < (L.length : Int)) with
    | false =>
      rw [hi] at C2
      have EA2 := Lib.hid (show askB (pns L) s d deg b n m at_ P = false by rw [EA.out]; unfold inG; rw [hi]; rfl)
      clear hi hc
      go_wp2_with fail
      refine (C2 _).mono ?_
      rintro e w3 ⟨rfl, rfl⟩
      dsimp only
      go_wp2
      go_ret
      exact ⟨retq EA2.out.symm, HB2.out⟩
    | true =>
      rw [hi] at C2
      have EA2 := Lib.hid (show askB (pns L) s d deg b n m at_ P = P.all (inG L.length) by rw [EA.out]; unfold inG; rw [hi]; rfl)
      clear hi hc
      go_wp2_with fail
      refine (C2 _).mono ?_
      rintro e w3 ⟨rfl, rfl⟩
      have HBB := Lib.hid (Below.refl w3.heap.size w3)
      have HF0 : Hid (∀ j, j < 0 → inG L.length (P[j]?.getD 0) = true) := Lib.hid (fun j hj => absurd hj (Nat.not_lt_zero _))
      clear y0 C2
      go_wp2
      go_loopw [10, 25] (fun _ i wr => ∃ j : Nat, j ≤ P.length ∧ i = .int .i64 j ∧ wr = w3 ∧ Hid (∀ x, x < j → inG L.length (P[x]?.getD 0) = true)) (fun _ i _ => P.length - (intOf i).toNat)
      case atStart => exact ⟨0, by omega, rfl, rfl, HF0⟩
      case round =>
        clear HF0 HBB
        obtain ⟨j, hj, rfl, rfl, HF⟩ := hrel
        have y0 := HZ2.out.cell 0
        by_cases hlt : j < P.length
        · have e1 : decide ((j : Int) < (P.length : Int)) = true := decide_eq_true (by omega)
          obtain ⟨b5, o5, t, rfl, hB5, hc5, hv5⟩ := ((HP.out.below HB2.out).more HB2.out.size).at_ hlt
          have x1 : (0 : Int) ≤ (j : Int) := by omega
          have x2 : (j : Int) < (P.length : Int) := by omega
          have C3 := isPlaceQ_any t (L.length : Int)
          cases hi : decide (0 ≤ t ∧ t < (L.length : Int)) with
          | false =>
            rw [hi] at C3
            have EA3 := Lib.hid (show askB (pns L) s d deg b n m at_ P = false by
              rw [EA2.out]
              cases ha : P.all (inG L.length) with
              | false => rfl
              | true =>
                have := List.all_eq_true.1 ha (P[j]'hlt) (List.getElem_mem hlt)
                have e4 : P[j]'hlt = t := by rw [← hv5.out, List.getElem?_eq_getElem hlt]; rfl
                rw [e4] at this
                unfold inG at this
                rw [hi] at this; cases this)
            clear hi hv5
            go_wp2_with fail
            refine (C3 _).mono ?_
            rintro e w4 ⟨rfl, rfl⟩
            dsimp only
            go_wp2
            go_ret
            exact ⟨retq EA3.out.symm, HB2.out⟩
          | true =>
            rw [hi] at C3
            have HF2 : Hid (∀ x, x < j + 1 → inG L.length (P[x]?.getD 0) = true) := Lib.hid (fun x hx => by
              rcases Nat.lt_or_ge x j with h | h
              · exact HF.out x h
              · obtain rfl : x = j := by omega
                rw [hv5.out]; exact hi)
            clear hi hv5
            go_wp2_with fail
            refine (C3 _).mono ?_
            rintro e w4 ⟨rfl, rfl⟩
            dsimp only
            go_wp2
            go_roundw
            case rel => exact ⟨j + 1, by omega, by go_num, by first | trivial | rfl, HF2⟩
            case measure => simp [intOf]; omega
        · obtain rfl : j = P.length := by omega
          have e1 : decide ((P.length : Int) < (P.length : Int)) = false := decide_eq_false (by omega)
          have EA3 := Lib.hid (show askB (pns L) s d deg b n m at_ P = true by
            rw [EA2.out, List.all_eq_true]
            intro x hx
            obtain ⟨i, hi, rfl⟩ := List.getElem_of_mem hx
            have := HF.out i hi
            rw [List.getElem?_eq_getElem hi] at this
            exact this)
          go_wp2
          go_ret
          exact ⟨retq EA3.out.symm, HB2.out⟩
/-- Domination's answer, and its errno. -/
def domB (G : List Pn) (s d deg b n m at_ kept other : Int) : Bool := askB G s d deg b n m at_ [kept, other] && ndB n m (fI G kept.toNat other.toNat) (fI G other.toNat at_.toNat)
theorem lit2Q (w : World) (a b : Int) : Rd .i64 (w.alloc (.cells #[.int .i64 a, .int .i64 b] 3)) (w.alloc (.cells #[.int .i64 a, .int .i64 b] 3)).heap.size (some ⟨w.heap.size, 0, none⟩) [a, b] := by
  have := rd_newF w .i64 3 [a, b] (0, 0)
  rw [World.size_alloc]; exact this
end Go.Proofs.YtfokejlancmahaaGreat
