/- Pruning: the places in order (nearestFirst). -/
import Derived.Test.YtfokejlancmahaaGreatUf
import Derived.Test.YtfokejlancmahaaGreatGa
import Derived.Test.YtfokejlancmahaaGreatOw
import Derived.Deep.AppendLies
import Derived.Deep.RegionHeld3
import Derived.Deep.RegionLaw
import Derived.Deep.OwnRows
namespace Go.Proofs.YtfokejlancmahaaGreat
open Go.Shelf Go.RowKit Go.Lib
open Go.Sort hiding Below
set_option linter.unusedVariables false
set_option linter.unusedSimpArgs false
/-- The places but the node's own. -/
def spK (P : List Int) (a k : Nat) : List Nat := ((P.take k).filter (fun p => p != (a : Int))).map Int.toNat
theorem spK_yes {P : List Int} {a k : Nat} {p : Nat} (h : P[k]? = some (p : Int)) (hn : p ≠ a) : spK P a (k + 1) = spK P a k ++ [p] := by
  unfold spK
  rw [List.take_add_one, h, List.filter_append, List.map_append]
  have : ((p : Int) != (a : Int)) = true := by simp; omega
  simp [this]
theorem spK_no {P : List Int} {a k : Nat} (h : P[k]? = some (a : Int)) : spK P a (k + 1) = spK P a k := by
  unfold spK
  rw [List.take_add_one, h, List.filter_append, List.map_append]
  simp
theorem spK_len (P : List Int) (a k : Nat) : (spK P a k).length ≤ k := by
  unfold spK
  rw [List.length_map]
  exact Nat.le_trans (List.length_filter_le _ _) (by rw [List.length_take]; omega)
def flatS (G : List Pn) (a : Nat) (S : List Nat) : List Value := S.flatMap (encS G a)
theorem flatS_snoc (G : List Pn) (a : Nat) (S : List Nat) (p : Nat) : flatS G a (S ++ [p]) = flatS G a S ++ encS G a p := by unfold flatS; rw [List.flatMap_append]; simp
theorem flatS_get (G : List Pn) (a : Nat) : ∀ (S : List Nat) (j p : Nat), S[j]? = some p → (flatS G a S)[j * 3]? = some (.int .i64 (clQ G.length p : Nat)) ∧ (flatS G a S)[j * 3 + 1]? = some (.int .u64 (kQ G a p).1) ∧ (flatS G a S)[j * 3 + 2]? = some (.int .i64 (kQ G a p).2)
  | [], j, p, h => by simp at h
  | q :: S, 0, p, h => by
    simp at h; subst h
    exact ⟨rfl, rfl, rfl⟩
  | q :: S, j + 1, p, h => by
    have := flatS_get G a S j p (by simpa using h)
    have e : flatS G a (q :: S) = encS G a q ++ flatS G a S := rfl
    rw [e]
    refine ⟨?_, ?_, ?_⟩
    · rw [List.getElem?_append_right (by rw [encS_len]; omega), encS_len, show (j + 1) * 3 - 3 = j * 3 by omega]; exact this.1
    · rw [List.getElem?_append_right (by rw [encS_len]; omega), encS_len, show (j + 1) * 3 + 1 - 3 = j * 3 + 1 by omega]; exact this.2.1
    · rw [List.getElem?_append_right (by rw [encS_len]; omega), encS_len, show (j + 1) * 3 + 2 - 3 = j * 3 + 2 by omega]; exact this.2.2
/-- A slice value is a row of spots, of the call's own. -/
def SpRow (G : List Pn) (a : Nat) (w : World) (base : Nat) (V : Option Addr) (vc : Nat) (S : Array Nat) : Prop :=
  S.size = 0 ∨ ∃ blk cs, V = some ⟨blk, 0, none⟩ ∧ base ≤ blk ∧ Whole w blk 81 cs ∧ S.size * 3 ≤ cs.size ∧ S.size ≤ vc ∧ vc ≤ maxLen ∧ SpC G a cs S
theorem own_spots {G : List Pn} {a : Nat} {w : World} {base n vc : Nat} {V : Option Addr} {S : List Nat} (h : w.ownsRow base 81 3 (.slice V n vc) n (flatS G a S)) (hn : n = S.length) (h0 : 0 < n) :
    ∃ blk cs, V = some ⟨blk, 0, none⟩ ∧ base ≤ blk ∧ Whole w blk 81 cs ∧ n * 3 ≤ cs.size ∧ n ≤ vc ∧ vc ≤ maxLen ∧ SpC G a cs S.toArray := by
  rcases h.2 with ⟨_, h1⟩ | ⟨g, cap, cur, hv, hb, hg, hc, hm, hs, ht⟩
  · omega
  · injection hv with e1 e2 e3
    subst e1 e3
    refine ⟨g, cur, rfl, hb, hg, by omega, hc, hm, fun j hj => ?_⟩
    have hj' : j < S.length := by simpa using hj
    have e : S.toArray[j]! = S[j]'hj' := by rw [getElem!_pos S.toArray j hj]; simp
    have hf := flatS_get G a S j _ (List.getElem?_eq_getElem hj')
    rw [e]
    have hcur : ∀ k, k < n * 3 → cur[k]? = (flatS G a S)[k]? := fun k hk => by
      rw [← ht, List.getElem?_take_of_lt hk]; simp
    refine ⟨?_, ?_, ?_⟩
    · rw [hcur _ (by omega)]; exact hf.1
    · rw [hcur _ (by omega)]; exact hf.2.1
    · rw [hcur _ (by omega)]; exact hf.2.2
def NFAns (G : List Pn) (a : Nat) (P : List Int) (w : World) (e : Ending) (w' : World) : Prop :=
  ∃ V vc, ∃ S : Array Nat, e = .returned (.slice V S.size vc) ∧ SpRow G a w' w.heap.size V vc S ∧ S.toList.Perm (spK P a P.length) ∧ Weak (ltP G a) S.toList ∧ Below w.heap.size w w'
theorem Tryz.info81s : (Tryz.prog.info? 81).map (fun i => (i.zero, i.size, i.bytes)) = some (some (.agg #[.int .i64 0, .int .u64 0, .int .i64 0]), 3, 24) := by kernel_rfl
set_option maxRecDepth 100000 in
set_option maxHeartbeats 4000000 in
theorem nearest_any (A : Option Addr) (c : Nat) (L : List Gn) (dm a : Nat) (hP : PG (pns L) dm) (ha : a < L.length) (B : Option Addr) (q : Nat) (P : List Int) (hR : ∀ p ∈ P, 0 ≤ p ∧ p < (L.length : Int)) (hl : P.length ≤ 1000000) (w : World) (hx : RdG w w.heap.size A L) (hp : Rd .i64 w w.heap.size B P) :
    Calls Tryz.prog 30 #[.slice A L.length c, .int .i64 (a : Int), .slice B P.length q] w (NFAns (pns L) a P w) := by
  have hln := pns_len L
  have hl2 := hP.len
  have HLN := Lib.hid hln
  have HX := Lib.hid hx
  have HP := Lib.hid hp
  have HR := Lib.hid hR
  have HPG := Lib.hid hP
  obtain ⟨i0, hi, hz0, hz1, hz2⟩ := info_parts Tryz.info81s
  have CA : Hid (w.ownsRow w.heap.size 81 3 (.slice none 0 0) 0 (flatS (pns L) a (spK P a 0))) := Lib.hid ⟨rfl, .inl ⟨rfl, rfl⟩⟩
  have CB : Hid (Below w.heap.size w w) := Lib.hid (Below.refl _ _)
  have hL : L.length ≤ 2048 := by omega
  clear hx hp hR hP hln hl2
  go_enter Tryz.func30, Tryz.ntmps30
  go_wp2
  go_loopw [7, 9, 12] (fun v _ i wr => ∃ (k n : Nat) (V : Option Addr) (vc : Nat), k ≤ P.length ∧ i = .int .i64 k ∧ v = .slice V n vc ∧ Hid (n = (spK P a k).length) ∧ Hid (wr.ownsRow w.heap.size 81 3 (.slice V n vc) n (flatS (pns L) a (spK P a k))) ∧ Hid (Below w.heap.size w wr)) (fun _ _ i _ => P.length - (intOf i).toNat)
  case atStart => exact ⟨0, 0, none, 0, by omega, rfl, rfl, Lib.hid rfl, CA, CB⟩
  case round =>
    clear CA CB
    obtain ⟨k, n, V, vc, hk, rfl, rfl, HN, HO, HB⟩ := hrel
    by_cases hlt : k < P.length
    · have e1 : decide ((k : Int) < (P.length : Int)) = true := decide_eq_true (by omega)
      obtain ⟨b5, o5, t, rfl, hB5, hc5, hv5⟩ := (HP.out.below HB.out).at_ hlt
      have hmem : P[k]? = some t := by
        have := hv5.out
        rw [List.getElem?_eq_getElem hlt] at this ⊢
        exact congrArg some this
      have htr := HR.out t (List.mem_of_getElem? hmem)
      obtain ⟨p, rfl⟩ := Int.eq_ofNat_of_zero_le htr.1
      have hpl : p < L.length := by omega
      have x1 : (0 : Int) ≤ (k : Int) := by omega
      have x2 : (k : Int) < (P.length : Int) := by omega
      have x3 : (0 : Int) ≤ (p : Int) := by omega
      have x4 : (p : Int) < (L.length : Int) := by omega
      by_cases hpa : p = a
      · subst hpa
        have e2 : ((p : Int) != (p : Int)) = false := by simp
        have HS := Lib.hid (spK_no hmem)
        clear hmem hv5 htr
        go_wp2
        go_roundw
        case rel => exact ⟨k + 1, n, V, vc, by omega, by go_num, rfl, Lib.hid (by rw [HS.out]; exact HN.out), Lib.hid (by rw [HS.out]; exact HO.out), HB⟩
        case measure => simp [intOf]; omega
      · have e2 : ((p : Int) != (a : Int)) = true := by simp; omega
        have HS := Lib.hid (spK_yes hmem hpa)
        have hnl : n ≤ 1000000 := by have := HN.out; have := spK_len P a k; omega
        obtain ⟨b6, o6, id, a1, c1, v, a2, c2, o, rfl, hB6, h1, h2, h3, hr1, hr2, hv⟩ := HX.out.at_ hpl
        have hid := nAt_get (pns_at hv.out)
        have hk1 : (kQ (pns L) a p).1 = id := by unfold kQ; rw [clQ_id (by rw [HLN.out]; exact hpl), hid]
        have hk2 : (kQ (pns L) a p).2 = fI (pns L) p a := by unfold kQ; rw [clQ_id (by rw [HLN.out]; exact hpl)]
        have HE := Lib.hid (show encS (pns L) a p = [.int .i64 (p : Int), .int .u64 id, .int .i64 (fI (pns L) p a)] by unfold encS; rw [clQ_id (by rw [HLN.out]; exact hpl), hk1, hk2])
        have HCL : Hid (∀ W, Below w.heap.size w W → W.cell? ⟨b6, o6 + p * 3, none⟩ = some (.int .u64 id) ∧ Below w.heap.size w W) := Lib.hid (fun W h => ⟨(h.cell (p := ⟨b6, o6 + p * 3, none⟩) hB6).trans h1, h⟩)
        have hsz := HB.out.size
        have bdr : Below wr.heap.size wr wr.drew := (Below.refl _ _).drew
        have AP := Lib.hid ((apartQ_any (some ⟨b6, o6, none⟩) c L.length L rfl dm HPG.out p a hpl ha wr.drew wr.heap.size (Nat.le_refl _) ((HX.out.below HB.out.drew).more hsz)).mono (fun e w' q => (⟨q.1, bdr.trans (q.2.mono bdr.size), HCL.out _ (HB.out.trans ((bdr.trans (q.2.mono bdr.size)).mono hsz))⟩ : e = .returned (.int .i64 (fI (pns L) p a)) ∧ Below wr.heap.size wr w' ∧ w'.cell? ⟨b6, o6 + p * 3, none⟩ = some (.int .u64 id) ∧ Below w.heap.size w w')))
        obtain ⟨F, eF⟩ : ∃ F, fI (pns L) p a = F := ⟨_, rfl⟩
        rw [eF] at AP HE
        obtain ⟨j1, j2⟩ := HCL.out wr.drew HB.out.drew
        have HV5 := Lib.hid hv5.out
        clear h1 h2 h3 hr1 hr2 hv hid hk1 hk2 eF hmem hv5 htr bdr
        go_wp2
        go_region_held3 (fun w' => w'.cell? ⟨b6, o6 + p * 3, none⟩ = some (.int .u64 id) ∧ Below w.heap.size w w')
          (first | exact ⟨by with_reducible assumption, by with_reducible assumption⟩ | exact HCL.out _ (Below.alloc (by with_reducible assumption) (Below.size (by with_reducible assumption)) _))
          (first
            | (go_at_call 89; (with_reducible refine AP.out.mono ?_); rintro e w5 ⟨rfl, b5, y1, y2⟩)
            | (refine step_append_lies _ (by rfl) _ _ _ (by rfl) w.heap.size 81 i0 (.agg #[.int .i64 0, .int .u64 0, .int .i64 0]) 3 24 Tryz.underlying76 hi hz0 hz1 hz2 rfl (by omega) (.slice V n vc) n (flatS (pns L) a (spK P a k)) (by rfl) (own_below HO.out (below_one b5 _)) ⟨w5.heap.size, 0, none⟩ 1 1 [.int .i64 (p : Int), .int .u64 id, .int .i64 F] (by rfl) (by rfl) (World.news_of_block (cs := #[.int .i64 (p : Int), .int .u64 id, .int .i64 F]) (t := 81) (fr := (0, 0)) (heap_alloc_new w5 _)) (by simp [Value.oneCell']) (by omega) (by unfold maxLen; omega) (by omega) (by have h1 := b5.size; rw [World.size_alloc]; omega) (w5.heap.size + 1) (by simp) ?_; intro gg gcap w6 hown6 hgrow6 hat6 hlt6
               have b6' : Below w.heap.size w w6 := (Below.alloc y2 y2.size _).grown hgrow6 (by have h1 := b5.size; rw [World.size_alloc]; omega) (fun r hr => (HO.out.lt r hr).1)
               obtain ⟨z1, z2⟩ := HCL.out w6 b6')
            | fail)
        all_goals
          have HR6 : Hid (w6.ownsRow w.heap.size 81 3 (.slice (some ⟨gg, 0, none⟩) (n + 1) gcap) (n + 1) (flatS (pns L) a (spK P a (k + 1)))) := Lib.hid (by rw [HS.out, flatS_snoc, HE.out]; exact hown6)
          have HB6 := Lib.hid b6'
          have HN6 : Hid (n + 1 = (spK P a (k + 1)).length) := Lib.hid (by rw [HS.out, List.length_append, ← HN.out]; rfl)
          clear hown6 hgrow6 hat6 hlt6 b6' y1 y2 z1 z2 j1 j2
          go_wp2
          go_roundw
          case rel => exact ⟨k + 1, n + 1, some ⟨gg, 0, none⟩, gcap, by omega, by go_num, rfl, HN6, HR6, HB6⟩
          case measure => simp [intOf]; omega
    · obtain rfl : k = P.length := by omega
      have e1 : decide ((P.length : Int) < (P.length : Int)) = false := decide_eq_false (by omega)
      have HBs := HB.out.size
      by_cases hn : n = 0
      · subst hn
        have hz : spK P a P.length = [] := List.eq_nil_of_length_eq_zero HN.out.symm
        go_wp2_with fail
        refine (sortN_any V vc _ wr).mono ?_
        rintro e w2 ⟨rfl, rfl⟩
        dsimp only
        go_wp2
        go_ret
        exact ⟨V, vc, #[], rfl, .inl rfl, by rw [hz], List.Pairwise.nil, HB.out⟩
      · obtain ⟨blk, cs, rfl, hbb, hW, hcs, hnv, hvm, hSp⟩ := own_spots HO.out HN.out (by omega)
        obtain ⟨d, ed⟩ : ∃ d, (spK P a P.length).toArray = d := ⟨_, rfl⟩
        have hd : n = d.size := by rw [← ed, HN.out]; simp
        subst hd
        rw [ed] at hSp
        have hsl := spK_len P a P.length
        have hds : d.size ≤ P.length := by rw [← ed]; simpa using hsl
        have C := sortS_any (pns L) a blk 0 vc d wr (hSp.holds hW) hW.lt (by omega)
        have HW := Lib.hid hW
        have HED := Lib.hid ed
        clear hSp hW ed hsl HN
        go_wp2_with fail
        refine C.mono ?_
        rintro e w2 ⟨rfl, d', m, os, hperm, hsort, rfl⟩
        dsimp only
        clear C
        obtain ⟨⟨cs', hw', hsz', hsp'⟩, htn⟩ := sorted_whole (G := pns L) (a := a) (d' := d') (n := m) (os := os) HW.out (by rw [hperm.1]; exact hcs)
        obtain ⟨w3, ew3⟩ : ∃ w3, sortWorldK (encS (pns L) a) 3 wr blk 0 m d' os = w3 := ⟨_, rfl⟩
        rw [ew3] at hw' htn ⊢
        clear ew3
        have hb3 : Below w.heap.size w w3 := HB.out.trans (htn.below (fun x hx => by simp at hx; omega) HBs)
        have hpm : d'.toList.Perm (spK P a P.length) := by
          have := hperm.2.2
          rw [← hperm.1, Array.extract_size, hperm.1, Array.extract_size, ← HED.out] at this
          simpa using this
        have hwk : Weak (ltP (pns L) a) d'.toList := by
          refine List.pairwise_iff_getElem.2 fun i j hi hj hij => ?_
          have h1 : i < d'.size := by simpa using hi
          have h2 : j < d'.size := by simpa using hj
          have := hsort i j (by omega) hij (by rw [← hperm.1]; exact h2)
          rw [getElem!_pos d' i h1, getElem!_pos d' j h2] at this
          simpa using this
        have hs' := hperm.1
        clear hperm hsort HED HO HW
        rw [show d.size = d'.size from hs'.symm] at hcs hnv
        go_wp2
        go_ret
        exact ⟨some ⟨blk, 0, none⟩, vc, d', by rw [hs']; rfl, .inr ⟨blk, cs', rfl, hbb, hw', by omega, by omega, hvm, hsp'⟩, hpm, hwk, hb3⟩
end Go.Proofs.YtfokejlancmahaaGreat
