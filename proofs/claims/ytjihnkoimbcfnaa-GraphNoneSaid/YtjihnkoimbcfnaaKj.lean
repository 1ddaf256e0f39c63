/- The walks of the document's Hops and Reached (layer 9). -/
import Derived.Test.YtjihnkoimbcfnaaKi
import Derived.Test.YtjihnkoimbcfnaaGa
namespace Go.Proofs.Ytjihnkoimbcfnaa
open Go.RowKit
set_option linter.unusedVariables false
theorem whole_rowK {w : World} {g base n cap : Nat} {t : TypeId} {cs : Array Value} (h : Whole w g t cs) (hc : cs.size = cap) (hn : n ≤ cap) (hm : cap ≤ 9223372036854775807) (hb : base ≤ g) : w.ownsRow base t 1 (.slice (some ⟨g, 0, none⟩) n cap) n (cs.toList.take n) := by
  refine ⟨?_, .inr ⟨g, cap, cs, rfl, hb, h, hn, hm, by rw [hc, Nat.mul_one], by rw [Nat.mul_one]⟩⟩
  rw [List.length_take, Nat.mul_one, Array.length_toList, hc]
  omega
def errG (b : Bool) : Int := if b then 0 else 1
/-- An answer that is a list of numbers, and an errno. -/
def IAns (w : World) (xs : List Int) (E : Int) (e : Ending) (w' : World) : Prop :=
  ∃ A c, e = .returned (.tuple #[.slice A xs.length c, .int .i64 E]) ∧ w'.ownsRow w.heap.size 3 1 (.slice A xs.length c) xs.length (xs.map (Value.int .i64)) ∧ Below w.heap.size w w'
theorem IAns.nil (w : World) (E : Int) {w' : World} (h : Below w.heap.size w w') : IAns w [] E (.returned (.tuple #[.slice none 0 0, .int .i64 E])) w' := ⟨none, 0, rfl, own_nil_row _ _ _, h⟩
set_option maxRecDepth 100000 in
set_option maxHeartbeats 4000000 in
theorem rHops_any (A : Option Addr) (c : Nat) (L : List Gn) (s : Int) (w : World) (hx : GArg w A L) :
    Calls Try.prog 23 #[.agg #[.slice A L.length c, .int .i64 s]] w (IAns w (hopsA (pns L) s) (errG (holdsB (pns L) s))) := by
  have hs : ∀ x ∈ pns L, x.2.2.length ≤ 20000 := fun x h => (hx.sm.at_ h).2
  have hl : L.length ≤ 20000 := by have := hx.sm.len; rwa [pns_len] at this
  have HX := Lib.hid hx
  have HSM := Lib.hid hs
  clear hx hs
  have HO := Lib.hid (fun W (h : Below w.heap.size w W) => rHolds_any A c L s W _ h.size (HX.out.rd.below h) hl HSM.out)
  cases hh : holdsB (pns L) s with
  | false =>
    rw [hh] at HO
    have E := Lib.hid (show hopsA (pns L) s = [] by unfold hopsA; rw [hh]; rfl)
    rw [E.out]
    clear hh
    go_enter Try.func23, Try.ntmps23
    go_wp2_with (go_at_call 41; refine (HO.out _ (below_one (Below.refl _ _) _)).mono ?_; rintro e w1 ⟨rfl, b1⟩; have z0 := (Whole.new w 24 #[.slice A L.length c, .int .i64 s]).below b1 (Whole.new w 24 #[.slice A L.length c, .int .i64 s]).lt; have zc0 : w1.cell? ⟨w.heap.size, 0, none⟩ = some (.slice A L.length c) := z0.cell 0; have zc1 : w1.cell? ⟨w.heap.size, 1, none⟩ = some (.int .i64 s) := z0.cell 1; have b1 := (below_one (Below.refl w.heap.size w) (.cells #[.slice A L.length c, .int .i64 s] 24)).trans (b1.mono (by rw [World.size_alloc]; omega)))
    go_ret2
    exact IAns.nil _ _ b1
  | true =>
    rw [hh] at HO
    have E := Lib.hid (show hopsA (pns L) s = hopsL (pns L) s by unfold hopsA; rw [hh]; rfl)
    have HT := Lib.hid (fun W (h : Below w.heap.size w W) => rTree_any A c L s W _ h.size (HX.out.rd.below h) hh HSM.out)
    have HLN := Lib.hid (show (hopsL (pns L) s).length = L.length by rw [hopsL_len, pns_len])
    rw [E.out]
    clear hh
    go_enter Try.func23, Try.ntmps23
    go_wp2_with (first
      | (go_at_call 41; refine (HO.out _ (below_one (Below.refl _ _) _)).mono ?_; rintro e w1 ⟨rfl, b1⟩; have z0 := (Whole.new w 24 #[.slice A L.length c, .int .i64 s]).below b1 (Whole.new w 24 #[.slice A L.length c, .int .i64 s]).lt; have zc0 : w1.cell? ⟨w.heap.size, 0, none⟩ = some (.slice A L.length c) := z0.cell 0; have zc1 : w1.cell? ⟨w.heap.size, 1, none⟩ = some (.int .i64 s) := z0.cell 1; have b1 := (below_one (Below.refl w.heap.size w) (.cells #[.slice A L.length c, .int .i64 s] 24)).trans (b1.mono (by rw [World.size_alloc]; omega)))
      | (go_at_call 45; refine (HT.out _ b1).mono ?_; rintro e w2 ⟨g1, g2, F, rfl, h1, h2, h3, hH, hF, hFl, b2⟩))
    go_ret2
    have hsz : (cellsI (hopsL (pns L) s)).size = L.length := by unfold cellsI; simp [HLN.out]
    have ho := whole_rowK (n := L.length) (base := w.heap.size) hH hsz (Nat.le_refl _) (by omega) (Nat.le_trans b1.size h1)
    have e2 : (cellsI (hopsL (pns L) s)).toList.take L.length = (hopsL (pns L) s).map (Value.int .i64) := by
      unfold cellsI
      rw [List.take_of_length_le (by simp [HLN.out])]
    rw [e2] at ho
    exact ⟨some ⟨g1, 0, none⟩, L.length, by rw [HLN.out]; rfl, by rw [HLN.out]; exact ho, b1.trans (b2.mono b1.size)⟩
/-- The first nodes that are reached. -/
noncomputable def reachK (G : List Pn) (s : Int) (k : Nat) : List Int := ((List.range k).filter fun i => decide (0 ≤ hopI G s.toNat i)).map fun (i : Nat) => (i : Int)
theorem reachK_yes {G : List Pn} {s : Int} {k : Nat} (h : 0 ≤ hopI G s.toNat k) : reachK G s (k + 1) = reachK G s k ++ [(k : Int)] := by
  unfold reachK
  rw [List.range_succ, List.filter_append, List.map_append]
  simp [h]
theorem reachK_no {G : List Pn} {s : Int} {k : Nat} (h : ¬ 0 ≤ hopI G s.toNat k) : reachK G s (k + 1) = reachK G s k := by
  unfold reachK
  rw [List.range_succ, List.filter_append, List.map_append]
  simp [h]
theorem reachK_len (G : List Pn) (s : Int) (k : Nat) : (reachK G s k).length ≤ k := by
  unfold reachK
  rw [List.length_map]
  have := List.length_filter_le (fun i => decide (0 ≤ hopI G s.toNat i)) (List.range k)
  simpa using this
set_option maxRecDepth 100000 in
set_option maxHeartbeats 4000000 in
theorem rReached_any (A : Option Addr) (c : Nat) (L : List Gn) (s : Int) (w : World) (hx : GArg w A L) :
    Calls Try.prog 22 #[.agg #[.slice A L.length c, .int .i64 s]] w (IAns w (reachedA (pns L) s) (errG (holdsB (pns L) s))) := by
  have hs : ∀ x ∈ pns L, x.2.2.length ≤ 20000 := fun x h => (hx.sm.at_ h).2
  have hl : L.length ≤ 20000 := by have := hx.sm.len; rwa [pns_len] at this
  have HX := Lib.hid hx
  have HSM := Lib.hid hs
  clear hx hs
  have HO := Lib.hid (fun W (h : Below w.heap.size w W) => rHolds_any A c L s W _ h.size (HX.out.rd.below h) hl HSM.out)
  cases hh : holdsB (pns L) s with
  | false =>
    rw [hh] at HO
    have E := Lib.hid (show reachedA (pns L) s = [] by unfold reachedA; rw [hh]; rfl)
    rw [E.out]
    clear hh
    go_enter Try.func22, Try.ntmps22
    go_wp2_with (go_at_call 41; refine (HO.out _ (below_one (Below.refl _ _) _)).mono ?_; rintro e w1 ⟨rfl, b1⟩; have z0 := (Whole.new w 24 #[.slice A L.length c, .int .i64 s]).below b1 (Whole.new w 24 #[.slice A L.length c, .int .i64 s]).lt; have zc0 : w1.cell? ⟨w.heap.size, 0, none⟩ = some (.slice A L.length c) := z0.cell 0; have zc1 : w1.cell? ⟨w.heap.size, 1, none⟩ = some (.int .i64 s) := z0.cell 1; have b1 := (below_one (Below.refl w.heap.size w) (.cells #[.slice A L.length c, .int .i64 s] 24)).trans (b1.mono (by rw [World.size_alloc]; omega)))
    go_ret2
    exact IAns.nil _ _ b1
  | true =>
    rw [hh] at HO
    have E := Lib.hid (show reachedA (pns L) s = reachK (pns L) s L.length by unfold reachedA reachedL reachK; rw [hh, pns_len]; rfl)
    have HT := Lib.hid (fun W (h : Below w.heap.size w W) => rTree_any A c L s W _ h.size (HX.out.rd.below h) hh HSM.out)
    have HLN := Lib.hid (show (hopsL (pns L) s).length = L.length by rw [hopsL_len, pns_len])
    have HPL := Lib.hid (pns_len L)
    obtain ⟨i0, hi, hz0, hz1, hz2⟩ := info_parts Try.info3
    rw [E.out]
    clear hh
    go_enter Try.func22, Try.ntmps22
    go_wp2_with (first
      | (go_at_call 41; refine (HO.out _ (below_one (Below.refl _ _) _)).mono ?_; rintro e w1 ⟨rfl, b1⟩; have z0 := (Whole.new w 24 #[.slice A L.length c, .int .i64 s]).below b1 (Whole.new w 24 #[.slice A L.length c, .int .i64 s]).lt; have zc0 : w1.cell? ⟨w.heap.size, 0, none⟩ = some (.slice A L.length c) := z0.cell 0; have zc1 : w1.cell? ⟨w.heap.size, 1, none⟩ = some (.int .i64 s) := z0.cell 1; have b1 := (below_one (Below.refl w.heap.size w) (.cells #[.slice A L.length c, .int .i64 s] 24)).trans (b1.mono (by rw [World.size_alloc]; omega)))
      | (go_at_call 45; refine (HT.out _ b1).mono ?_; rintro e w2 ⟨g1, g2, F, rfl, h1, h2, h3, hH, hF, hFl, b2⟩))
    have HB2 := Lib.hid (b1.trans (b2.mono b1.size))
    have HH := Lib.hid hH
    have C0 : Hid (w2.ownsRow w2.heap.size 3 1 (.slice none 0 0) (reachK (pns L) s 0).length ((reachK (pns L) s 0).map (Value.int .i64))) := Lib.hid (own_nil_row _ _ _)
    have C1 : Hid (Below w2.heap.size w2 w2) := Lib.hid (Below.refl _ _)
    clear b1 b2 hH hF hFl h1 h2 h3
    go_loopw [6, 7] (fun l i wr => ∃ (k : Nat) (VA : Option Addr) (vc : Nat), k ≤ L.length ∧ i = .int .i64 k ∧ l = .slice VA (reachK (pns L) s k).length vc ∧ Hid (wr.ownsRow w2.heap.size 3 1 (.slice VA (reachK (pns L) s k).length vc) (reachK (pns L) s k).length ((reachK (pns L) s k).map (Value.int .i64))) ∧ Hid (Below w2.heap.size w2 wr)) (fun _ i _ => L.length - (intOf i).toNat)
    case atStart => exact ⟨0, none, 0, by omega, rfl, rfl, C0, C1⟩
    case round =>
      clear C0 C1
      obtain ⟨k, VA, vc, hk, rfl, rfl, HR, HB⟩ := hrel
      have hsz := HB.out.size
      by_cases hlt : k < L.length
      · have e1 : decide ((k : Int) < (L.length : Int)) = true := decide_eq_true (by omega)
        have ch : wr.cell? ⟨g1, k, none⟩ = some (.int .i64 (hAt (hopsL (pns L) s) k)) := ((HH.out.below HB.out HH.out.lt).cell k).trans (cellsI_at (by rw [HLN.out]; exact hlt))
        have eh : hAt (hopsL (pns L) s) k = hopI (pns L) s.toNat k := by unfold hAt; rw [hopsL_at (by rw [HPL.out]; exact hlt)]; rfl
        rw [eh] at ch
        clear eh
        have x1 : (0 : Int) ≤ (k : Int) := by omega
        have x2 : (k : Int) < (L.length : Int) := by omega
        by_cases hp : 0 ≤ hopI (pns L) s.toNat k
        · have HS := Lib.hid (reachK_yes hp)
          have hln := reachK_len (pns L) s k
          obtain ⟨h, ehh⟩ : ∃ h, hopI (pns L) s.toNat k = h := ⟨_, rfl⟩
          have e2 : decide (0 ≤ h) = true := decide_eq_true (by rw [← ehh]; exact hp)
          rw [ehh] at ch
          obtain ⟨RK, eRK⟩ : ∃ RK, reachK (pns L) s k = RK := ⟨_, rfl⟩
          rw [eRK] at HR HS hln ⊢
          clear ehh hp eRK
          go_wp2_with (at_builtin; refine wpList_append_own _ rfl _ _ 35 rfl w2.heap.size 3 i0 (.int .i64 0) 1 8 Try.underlying35 hi hz0 hz1 hz2 rfl (by decide) _ _ _ rfl (HR.out.alloc _) ⟨wr.heap.size, 0, none⟩ 1 1 [.int .i64 (k : Int)] rfl rfl (cell_one_new _ _ _) (by simp [Value.oneCell']) (by show RK.length + 1 ≤ 9223372036854775807; omega) (by omega) (by rw [World.size_alloc]; omega) ?_; intro v' w3 hown' hgrow _)
          obtain ⟨V4, m4, c4, rfl⟩ := own_form hown'
          obtain rfl := own_len hown'
          have b3 := Lib.hid ((HB.out.alloc hsz (.cells #[.int .i64 (k : Int)] 3)).grown hgrow (by rw [World.size_alloc]; omega) (fun r hr => (HR.out.lt r hr).1))
          have hq : RK.length + 1 = (reachK (pns L) s (k + 1)).length := by rw [HS.out]; simp
          have HR2 : Hid (w3.ownsRow w2.heap.size 3 1 (.slice V4 (reachK (pns L) s (k + 1)).length c4) (reachK (pns L) s (k + 1)).length ((reachK (pns L) s (k + 1)).map (Value.int .i64))) := Lib.hid (by
            rw [← hq, HS.out, List.map_append]; exact hown')
          clear hown' hgrow
          go_roundw
          case rel => exact ⟨k + 1, V4, c4, by omega, by go_num, by rw [hq], HR2, b3⟩
          case measure => simp [intOf]; omega
        · have HS := Lib.hid (reachK_no hp)
          obtain ⟨h, ehh⟩ : ∃ h, hopI (pns L) s.toNat k = h := ⟨_, rfl⟩
          have e2 : decide (0 ≤ h) = false := decide_eq_false (by rw [← ehh]; exact hp)
          rw [ehh] at ch
          clear ehh hp
          go_wp2
          go_roundw
          case rel => exact ⟨k + 1, VA, vc, by omega, by go_num, by rw [HS.out], by rw [HS.out]; exact HR, HB⟩
          case measure => simp [intOf]; omega
      · obtain rfl : k = L.length := by omega
        have e1 : decide ((L.length : Int) < (L.length : Int)) = false := decide_eq_false (by omega)
        go_wp2
        go_ret2
        exact ⟨VA, vc, rfl, own_base HR.out HB2.out.size, HB2.out.trans (HB.out.mono HB2.out.size)⟩
end Go.Proofs.Ytjihnkoimbcfnaa
