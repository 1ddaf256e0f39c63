/- The walks of LeftNodes, LeftGraph. -/
import Derived.Test.YtfokejlancmahaaGreatKe
namespace Go.Proofs.YtfokejlancmahaaGreat
open Go.RowKit
set_option linter.unusedVariables false
theorem TwinG.rdm {w : World} {base g : Nat} {T : List Gn} (h : TwinG w base g T) : RdG w w.heap.size (some ⟨g, 0, none⟩) (T ++ [gMark]) := by
  have h1 := h.row
  rw [show T.length + 1 = (T ++ [gMark]).length by simp] at h1
  exact rowG_rd h1 (fun x hx => by
    rcases List.mem_append.1 hx with h2 | h2
    · exact ⟨(h.tv x h2).rd0, (h.to x h2).rd0⟩
    · rw [List.mem_singleton] at h2
      subst h2
      exact ⟨rd_nil _ _ _, rd_nil _ _ _⟩)
set_option maxRecDepth 100000 in
set_option maxHeartbeats 4000000 in
theorem leftNodes_any (g base : Nat) (T : List Gn) (A : Option Addr) (c : Nat) (L : List Gn) (n : Nat) (hn : n = L.length) (w : World) (hT : TwinG w base g T) (hv : pns T = pns L) (hTl : T.length = L.length) (hx : GGiven w A L) (hs : GSmall (pns L)) :
    Calls Tryz.prog 38 #[.slice (some ⟨g, 0, none⟩) n (n + 1), .slice A n c] w fun e w' => e = .returned (.bool true) ∧ Below w.heap.size w w' := by
  subst hn
  have HSM := Lib.hid (fun x (h : x ∈ pns L) => hs.at_ h)
  have hl : L.length ≤ 20000 := by have := hs.len; rwa [pns_len] at this
  have HV := Lib.hid hv
  have HTL := Lib.hid hTl
  have HT := Lib.hid hT
  have HX := Lib.hid hx
  have hgl := hT.row.lt g rfl
  have nl : ((L.length : Int) != (L.length : Int)) = false := by simp
  have nc : decide ((L.length : Int) + 1 ≤ (L.length : Int)) = false := decide_eq_false (by omega)
  clear hv hTl hT hs hx
  go_enter Tryz.func38, Tryz.ntmps38
  go_wp2
  go_loopw [5] (fun i wr => ∃ k : Nat, k ≤ L.length ∧ i = .int .i64 k ∧ Hid (Below w.heap.size w wr)) (fun i _ => L.length - (intOf i).toNat)
  case atStart => exact ⟨0, by omega, rfl, Below.refl _ _⟩
  case round =>
    obtain ⟨k, hk, rfl, HB⟩ := hrel
    have hsz := HB.out.size
    by_cases hlt : k < L.length
    · have e1 : decide ((k : Int) < (L.length : Int)) = true := decide_eq_true (by omega)
      obtain ⟨b, off, id, a1, c1, v, a2, c2, o, rfl, hBb, h1, h2, h3, hr1, hr2, hvx⟩ := (HX.out.below HB.out).rd.at_ hlt
      have hT := HT.out.below HB.out
      obtain ⟨b', off', id', a1', c1', v', a2', c2', o', eT, hBb', h1', h2', h3', hr1', hr2', hvy⟩ := hT.rd.at_ (i := k) (by rw [HTL.out]; exact hlt)
      simp only [Option.some.injEq, Addr.mk.injEq, and_true] at eT
      obtain ⟨rfl, rfl⟩ := eT
      simp only [Nat.zero_add] at h1' h2' h3'
      have hsm := HSM.out _ (List.mem_of_getElem? (pns_at hvx.out))
      have l1 : v.length ≤ 20000 := hsm.1
      have l2 : o.length ≤ 20000 := hsm.2
      have e : (id', v', o') = (id, v, o) := by
        have q1 := pns_at hvx.out
        have q2 := pns_at hvy.out
        rw [HV.out, q1] at q2
        simpa using q2.symm
      simp only [Prod.mk.injEq] at e
      obtain ⟨rfl, rfl, rfl⟩ := e
      have hmT := List.mem_of_getElem? hvy.out
      have kv := hT.tv _ hmT
      have ko := hT.to _ hmT
      have kc1 : c1' = v'.length + 1 := kv.1
      have kc2 : c2' = o'.length + 1 := ko.1
      have room := HX.out.room _ (List.mem_of_getElem? hvx.out)
      have rm1 : v'.length ≤ c1 ∧ c1 ≤ 9223372036854775807 := room.1
      have rm2 : o'.length ≤ c2 ∧ c2 ≤ 9223372036854775807 := room.2
      have kvr : Rd .i8 wr wr.heap.size a1' (v' ++ [77]) := kv.rd
      have kor : Rd .i64 wr wr.heap.size a2' (o' ++ [77]) := ko.rd
      have HLN := Lib.hid (fun W (h : Below wr.heap.size wr W) => ((leftNode_any id' a1' a2' a1 a2 c1' c2' c1 c2 v' o' W wr.heap.size h.size (kvr.below h) (kor.below h) (hr1.below h) (hr2.below h) (by omega) (by omega) (by omega) (by omega) rm1 rm2).mono fun e w' q => (by
          have hq := h.trans (q.2.mono h.size)
          exact ⟨q.1, hq, (hq.cell (p := ⟨g, k * 3, none⟩) hBb').trans h1', (hq.cell (p := ⟨g, k * 3 + 1, none⟩) hBb').trans h2', (hq.cell (p := ⟨g, k * 3 + 2, none⟩) hBb').trans h3', (hq.cell (p := ⟨b, off + k * 3, none⟩) hBb).trans h1, (hq.cell (p := ⟨b, off + k * 3 + 1, none⟩) hBb).trans h2, (hq.cell (p := ⟨b, off + k * 3 + 2, none⟩) hBb).trans h3⟩ : e = .returned (.bool true) ∧ Below wr.heap.size wr w' ∧ w'.cell? ⟨g, k * 3, none⟩ = some (.int .u64 id') ∧ w'.cell? ⟨g, k * 3 + 1, none⟩ = some (.slice a1' v'.length c1') ∧ w'.cell? ⟨g, k * 3 + 2, none⟩ = some (.slice a2' o'.length c2') ∧ w'.cell? ⟨b, off + k * 3, none⟩ = some (.int .u64 id') ∧ w'.cell? ⟨b, off + k * 3 + 1, none⟩ = some (.slice a1 v'.length c1) ∧ w'.cell? ⟨b, off + k * 3 + 2, none⟩ = some (.slice a2 o'.length c2))))
      have x1 : (0 : Int) ≤ (k : Int) := by omega
      have x2 : (k : Int) < (L.length : Int) := by omega
      have hd : Below wr.heap.size wr wr.drew := (Below.refl _ _).drew
      have j1 : wr.drew.cell? ⟨g, k * 3, none⟩ = some (.int .u64 id') := h1'
      have j2 : wr.drew.cell? ⟨g, k * 3 + 1, none⟩ = some (.slice a1' v'.length c1') := h2'
      have j3 : wr.drew.cell? ⟨g, k * 3 + 2, none⟩ = some (.slice a2' o'.length c2') := h3'
      have j4 : wr.drew.cell? ⟨b, off + k * 3, none⟩ = some (.int .u64 id') := h1
      have j5 : wr.drew.cell? ⟨b, off + k * 3 + 1, none⟩ = some (.slice a1 v'.length c1) := h2
      have j6 : wr.drew.cell? ⟨b, off + k * 3 + 2, none⟩ = some (.slice a2 o'.length c2) := h3
      clear hsm hvx hvy hr1 hr2 hr1' hr2' l1 l2 hT kv ko kc1 kc2 room rm1 rm2 kvr kor hmT
      go_wp2
      clear h1 h2 h3 h1' h2' h3'
      go_region_held3 (fun w' => w'.cell? ⟨g, k * 3, none⟩ = some (.int .u64 id') ∧ w'.cell? ⟨g, k * 3 + 1, none⟩ = some (.slice a1' v'.length c1') ∧ w'.cell? ⟨g, k * 3 + 2, none⟩ = some (.slice a2' o'.length c2') ∧ w'.cell? ⟨b, off + k * 3, none⟩ = some (.int .u64 id') ∧ w'.cell? ⟨b, off + k * 3 + 1, none⟩ = some (.slice a1 v'.length c1) ∧ w'.cell? ⟨b, off + k * 3 + 2, none⟩ = some (.slice a2 o'.length c2))
        (first | exact ⟨by with_reducible assumption, by with_reducible assumption, by with_reducible assumption, by with_reducible assumption, by with_reducible assumption, by with_reducible assumption⟩)
        (first
          | (go_at_call 99; (with_reducible refine (HLN.out _ (by with_reducible assumption)).mono ?_); rintro e w2 ⟨rfl, b2, y1, y2, y3, y4, y5, y6⟩)
          | fail)
      all_goals
        have HB2 := Lib.hid (HB.out.trans (b2.mono hsz))
        clear b2 y1 y2 y3 y4 y5 y6 j1 j2 j3 j4 j5 j6 hd
        go_wp2
        go_roundw
        case rel => exact ⟨k + 1, by omega, by go_num, HB2⟩
        case measure => simp [intOf]; omega
    · obtain rfl : k = L.length := by omega
      have e1 : decide ((L.length : Int) < (L.length : Int)) = false := decide_eq_false (by omega)
      obtain ⟨b', off', id', a1', c1', v', a2', c2', o', eT, hBb', h1', h2', h3', hr1', hr2', hvy⟩ := (HT.out.below HB.out).rdm.at_ (i := L.length) (by simp; have := HTL.out; omega)
      simp only [Option.some.injEq, Addr.mk.injEq, and_true] at eT
      obtain ⟨rfl, rfl⟩ := eT
      simp only [Nat.zero_add] at h1' h2' h3'
      have e : (id', (a1', c1', v'), (a2', c2', o')) = gMark := by
        have := hvy.out
        rw [← HTL.out, List.getElem?_append_right (Nat.le_refl _), Nat.sub_self] at this
        simpa using this.symm
      simp only [gMark, vNil, Prod.mk.injEq] at e
      obtain ⟨rfl, ⟨rfl, rfl, rfl⟩, ⟨rfl, rfl, rfl⟩⟩ := e
      clear hr1' hr2' hvy
      go_wp2
      go_ret
      exact ⟨rfl, HB.out.alloc hsz _⟩
set_option maxRecDepth 100000 in
set_option maxHeartbeats 4000000 in
theorem leftGraph_any (g base : Nat) (T : List Gn) (A : Option Addr) (c : Nat) (L : List Gn) (s : Int) (n : Nat) (hn : n = L.length) (w : World) (hT : TwinG w base g T) (hv : pns T = pns L) (hTl : T.length = L.length) (hx : GGiven w A L) (hs : GSmall (pns L)) :
    Calls Tryz.prog 12 #[.agg #[.slice (some ⟨g, 0, none⟩) n (n + 1), .int .i64 s], .agg #[.slice A n c, .int .i64 s]] w fun e w' => e = .returned (.bool true) ∧ Below w.heap.size w w' := by
  subst hn
  obtain ⟨W0, W1, B0, hsz⟩ := twoN w #[.slice (some ⟨g, 0, none⟩) L.length (L.length + 1), .int .i64 s] #[.slice A L.length c, .int .i64 s] 24
  have SN := Lib.hid (leftNodes_any g base T A c L _ rfl _ (hT.below B0) hv hTl (hx.below B0) hs)
  have HB := Lib.hid B0
  have HW0 := Lib.hid W0
  have HW1 := Lib.hid W1
  have p0 := W0.cell 0
  have p1 := W0.cell 1
  have q0 := W1.cell 0
  have q1 := W1.cell 1
  clear W0 W1 B0 hsz hx hT hv hs hTl
  have e1 : (s == s) = true := by simp
  go_enter Tryz.func12, Tryz.ntmps12
  go_wp2_with (go_at_call 38; refine SN.out.mono ?_; rintro e w2 ⟨rfl, b2⟩
               have z0 := HW0.out.below b2 HW0.out.lt
               have z1 := HW1.out.below b2 HW1.out.lt
               have r1 : w2.cell? ⟨w.heap.size, 1, none⟩ = some (.int .i64 s) := z0.cell 1
               have t1 : w2.cell? ⟨w.heap.size + 1, 1, none⟩ = some (.int .i64 s) := z1.cell 1
               have B2 := Lib.hid (HB.out.trans (b2.mono HB.out.size))
               clear z0 z1 b2)
  go_ret
  exact ⟨rfl, B2.out⟩
end Go.Proofs.YtfokejlancmahaaGreat
