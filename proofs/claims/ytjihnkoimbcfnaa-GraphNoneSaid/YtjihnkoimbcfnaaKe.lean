/- The walks of SameNode, SameNodes, SameGraph; LeftNode, LeftNodes, LeftGraph. -/
import Derived.Test.YtjihnkoimbcfnaaKd
import Derived.Test.YtjihnkoimbcfnaaBs
namespace Go.Proofs.Ytjihnkoimbcfnaa
open Go.RowKit
set_option linter.unusedVariables false
/-- Two nodes by value, each in a box. -/
theorem twoN (w : World) (x y : Array Value) (t : TypeId) : Whole ((w.alloc (.cells x t)).alloc (.cells y t)) w.heap.size t x ∧ Whole ((w.alloc (.cells x t)).alloc (.cells y t)) (w.heap.size + 1) t y ∧ Below w.heap.size w ((w.alloc (.cells x t)).alloc (.cells y t)) ∧ ((w.alloc (.cells x t)).alloc (.cells y t)).heap.size = w.heap.size + 2 := by
  refine ⟨(Whole.new w t _).alloc _, ?_, below_one (below_one (Below.refl _ _) _) _, by simp⟩
  have := Whole.new (w.alloc (.cells x t)) t y
  rwa [World.size_alloc] at this
set_option maxRecDepth 100000 in
set_option maxHeartbeats 4000000 in
theorem sameNode_any (i1 i2 : Int) (a1 a2 a3 a4 : Option Addr) (c1 c2 c3 c4 : Nat) (v1 o1 v2 o2 : List Int) (w : World) (D : Nat) (hD : D ≤ w.heap.size) (h1 : Rd .i8 w D a1 v1) (h2 : Rd .i64 w D a2 o1) (h3 : Rd .i8 w D a3 v2) (h4 : Rd .i64 w D a4 o2)
    (l1 : v1.length ≤ 1000000) (l2 : o1.length ≤ 1000000) (l3 : v2.length ≤ 1000000) (l4 : o2.length ≤ 1000000) :
    Calls Try.prog 120 #[.agg #[.int .u64 i1, .slice a1 v1.length c1, .slice a2 o1.length c2], .agg #[.int .u64 i2, .slice a3 v2.length c3, .slice a4 o2.length c4]] w fun e w' => e = .returned (.bool (decide ((i1, v1, o1) = (i2, v2, o2)))) ∧ Below w.heap.size w w' := by
  obtain ⟨W0, W1, B0, hsz⟩ := twoN w #[.int .u64 i1, .slice a1 v1.length c1, .slice a2 o1.length c2] #[.int .u64 i2, .slice a3 v2.length c3, .slice a4 o2.length c4] 65
  have S8 := Lib.hid (fun W (h : Below w.heap.size w W) => same8Z_any a1 a3 c1 c3 v1 v2 W D (h1.below (h.mono hD)) (h3.below (h.mono hD)) (by omega) (by omega))
  have SI := Lib.hid (fun W (h : Below w.heap.size w W) => sameZ_any a2 a4 c2 c4 o1 o2 W D (h2.below (h.mono hD)) (h4.below (h.mono hD)) (by omega) (by omega))
  clear h1 h2 h3 h4 hD hsz
  have HR : Hid (decide ((i1, v1, o1) = (i2, v2, o2)) = ((i1 == i2) && (eqZ v1 v2 && eqZ o1 o2))) := Lib.hid (by
    unfold eqZ
    rw [Bool.eq_iff_iff]
    simp)
  rw [HR.out]
  obtain ⟨w1, ew1⟩ : ∃ w1, (w.alloc (.cells #[.int .u64 i1, .slice a1 v1.length c1, .slice a2 o1.length c2] 65)).alloc (.cells #[.int .u64 i2, .slice a3 v2.length c3, .slice a4 o2.length c4] 65) = w1 := ⟨_, rfl⟩
  rw [ew1] at W0 W1 B0
  have HB := Lib.hid B0
  have HE := Lib.hid ew1
  clear ew1
  have HW0 := Lib.hid W0
  have HW1 := Lib.hid W1
  clear W0 W1 B0
  cases e1 : (i1 == i2) with
  | false =>
    go_enter Try.func120, Try.ntmps120
    go_wp2
    go_ret
    exact ⟨rfl, by rw [HE.out]; exact HB.out⟩
  | true =>
    cases e2 : eqZ v1 v2 with
    | false =>
      rw [e2] at S8
      clear e2
      go_enter Try.func120, Try.ntmps120
      go_wp2_with (go_at_call 35; refine (S8.out _ (by rw [HE.out]; exact HB.out)).mono ?_; rintro e w2 ⟨rfl, nq, rfl⟩)
      go_ret
      exact ⟨rfl, by rw [HE.out]; exact below_drewN HB.out _⟩
    | true =>
      cases e3 : eqZ o1 o2 with
      | false =>
        rw [e2] at S8
        rw [e3] at SI
        clear e2 e3
        go_enter Try.func120, Try.ntmps120
        go_wp2_with (first
          | (go_at_call 35; refine (S8.out _ (by rw [HE.out]; exact HB.out)).mono ?_; rintro e w2 ⟨rfl, nq, rfl⟩)
          | (go_at_call 24; refine (SI.out _ (by rw [HE.out]; exact below_drewN HB.out _)).mono ?_; rintro e w3 ⟨rfl, mq, rfl⟩))
        go_ret
        exact ⟨rfl, by rw [HE.out]; exact below_drewN HB.out _⟩
      | true =>
        rw [e2] at S8
        rw [e3] at SI
        clear e2 e3
        go_enter Try.func120, Try.ntmps120
        go_wp2_with (first
          | (go_at_call 35; refine (S8.out _ (by rw [HE.out]; exact HB.out)).mono ?_; rintro e w2 ⟨rfl, nq, rfl⟩)
          | (go_at_call 24; refine (SI.out _ (by rw [HE.out]; exact below_drewN HB.out _)).mono ?_; rintro e w3 ⟨rfl, mq, rfl⟩))
        go_ret
        exact ⟨rfl, by rw [HE.out]; exact below_drewN HB.out _⟩
set_option maxRecDepth 100000 in
set_option maxHeartbeats 4000000 in
theorem sameNodes_any (A : Option Addr) (c : Nat) (L : List Gn) (B : Option Addr) (d : Nat) (M : List Gn) (n m : Nat) (hn : n = L.length) (hm : m = M.length) (w : World) (D : Nat) (hD : D ≤ w.heap.size) (hx : RdG w D A L) (hy : RdG w D B M) (hv : pns L = pns M) (hl : L.length ≤ 20000) (hs : ∀ x ∈ pns L, x.2.1.length ≤ 20000 ∧ x.2.2.length ≤ 20000) :
    Calls Try.prog 87 #[.slice A n c, .slice B m d] w fun e w' => e = .returned (.bool true) ∧ Below w.heap.size w w' := by
  have hLM : M.length = L.length := by rw [← pns_len M, ← hv, pns_len]
  subst hn hm
  rw [hLM]
  have HV := Lib.hid hv
  have HSM := Lib.hid hs
  have HLM := Lib.hid hLM
  have nl : ((L.length : Int) != (L.length : Int)) = false := by simp
  clear hv hs hLM
  go_enter Try.func87, Try.ntmps87
  go_wp2
  go_loopw [5] (fun i wr => ∃ k : Nat, k ≤ L.length ∧ i = .int .i64 k ∧ Hid (Below w.heap.size w wr)) (fun i _ => L.length - (intOf i).toNat)
  case atStart => exact ⟨0, by omega, rfl, Below.refl _ _⟩
  case round =>
    obtain ⟨k, hk, rfl, HB⟩ := hrel
    have bd : Below D w wr := HB.out.mono hD
    have hsz := HB.out.size
    by_cases hlt : k < L.length
    · have e1 : decide ((k : Int) < (L.length : Int)) = true := decide_eq_true (by omega)
      obtain ⟨b, off, id, a1, c1, v, a2, c2, o, rfl, hBb, h1, h2, h3, hr1, hr2, hvx⟩ := (hx.below bd).at_ hlt
      obtain ⟨b', off', id', a1', c1', v', a2', c2', o', rfl, hBb', h1', h2', h3', hr1', hr2', hvy⟩ := (hy.below bd).at_ (i := k) (by rw [HLM.out]; exact hlt)
      have hsm := HSM.out _ (List.mem_of_getElem? (pns_at hvx.out))
      have l1 : v.length ≤ 20000 := hsm.1
      have l2 : o.length ≤ 20000 := hsm.2
      have e : (id', v', o') = (id, v, o) := by
        have q1 := pns_at hvx.out
        have q2 := pns_at hvy.out
        rw [HV.out, q2] at q1
        simpa using q1
      simp only [Prod.mk.injEq] at e
      obtain ⟨rfl, rfl, rfl⟩ := e
      have HSN := Lib.hid (fun W (h : Below wr.heap.size wr W) => (by
        have SN := sameNode_any id' id' a1 a2 a1' a2' c1 c2 c1' c2' v' o' v' o' W D (Nat.le_trans (by omega) h.size) (hr1.below (h.mono (by omega))) (hr2.below (h.mono (by omega))) (hr1'.below (h.mono (by omega))) (hr2'.below (h.mono (by omega))) (by omega) (by omega) (by omega) (by omega)
        rw [decide_eq_true rfl] at SN
        exact SN.mono fun e w' q => (by
          have hq := h.trans (q.2.mono h.size)
          have z : ∀ {p : Addr}, p.block < D → w'.cell? p = wr.cell? p := fun hp => hq.cell (Nat.lt_of_lt_of_le hp (by omega))
          exact ⟨q.1, hq, (z (p := ⟨b, off + k * 3, none⟩) hBb).trans h1, (z (p := ⟨b, off + k * 3 + 1, none⟩) hBb).trans h2, (z (p := ⟨b, off + k * 3 + 2, none⟩) hBb).trans h3, (z (p := ⟨b', off' + k * 3, none⟩) hBb').trans h1', (z (p := ⟨b', off' + k * 3 + 1, none⟩) hBb').trans h2', (z (p := ⟨b', off' + k * 3 + 2, none⟩) hBb').trans h3'⟩ : e = .returned (.bool true) ∧ Below wr.heap.size wr w' ∧ w'.cell? ⟨b, off + k * 3, none⟩ = some (.int .u64 id') ∧ w'.cell? ⟨b, off + k * 3 + 1, none⟩ = some (.slice a1 v'.length c1) ∧ w'.cell? ⟨b, off + k * 3 + 2, none⟩ = some (.slice a2 o'.length c2) ∧ w'.cell? ⟨b', off' + k * 3, none⟩ = some (.int .u64 id') ∧ w'.cell? ⟨b', off' + k * 3 + 1, none⟩ = some (.slice a1' v'.length c1') ∧ w'.cell? ⟨b', off' + k * 3 + 2, none⟩ = some (.slice a2' o'.length c2')) : Calls Try.prog 120 #[.agg #[.int .u64 id', .slice a1 v'.length c1, .slice a2 o'.length c2], .agg #[.int .u64 id', .slice a1' v'.length c1', .slice a2' o'.length c2']] W fun e w' => e = .returned (.bool true) ∧ Below wr.heap.size wr w' ∧ w'.cell? ⟨b, off + k * 3, none⟩ = some (.int .u64 id') ∧ w'.cell? ⟨b, off + k * 3 + 1, none⟩ = some (.slice a1 v'.length c1) ∧ w'.cell? ⟨b, off + k * 3 + 2, none⟩ = some (.slice a2 o'.length c2) ∧ w'.cell? ⟨b', off' + k * 3, none⟩ = some (.int .u64 id') ∧ w'.cell? ⟨b', off' + k * 3 + 1, none⟩ = some (.slice a1' v'.length c1') ∧ w'.cell? ⟨b', off' + k * 3 + 2, none⟩ = some (.slice a2' o'.length c2')))
      have x1 : (0 : Int) ≤ (k : Int) := by omega
      have x2 : (k : Int) < (L.length : Int) := by omega
      have hd : Below wr.heap.size wr wr.drew := (Below.refl _ _).drew
      have j1 : wr.drew.cell? ⟨b, off + k * 3, none⟩ = some (.int .u64 id') := h1
      have j2 : wr.drew.cell? ⟨b, off + k * 3 + 1, none⟩ = some (.slice a1 v'.length c1) := h2
      have j3 : wr.drew.cell? ⟨b, off + k * 3 + 2, none⟩ = some (.slice a2 o'.length c2) := h3
      have j4 : wr.drew.cell? ⟨b', off' + k * 3, none⟩ = some (.int .u64 id') := h1'
      have j5 : wr.drew.cell? ⟨b', off' + k * 3 + 1, none⟩ = some (.slice a1' v'.length c1') := h2'
      have j6 : wr.drew.cell? ⟨b', off' + k * 3 + 2, none⟩ = some (.slice a2' o'.length c2') := h3'
      clear hsm hvx hvy hr1 hr2 hr1' hr2' l1 l2
      go_wp2
      clear h1 h2 h3 h1' h2' h3'
      go_region_held3 (fun w' => w'.cell? ⟨b, off + k * 3, none⟩ = some (.int .u64 id') ∧ w'.cell? ⟨b, off + k * 3 + 1, none⟩ = some (.slice a1 v'.length c1) ∧ w'.cell? ⟨b, off + k * 3 + 2, none⟩ = some (.slice a2 o'.length c2) ∧ w'.cell? ⟨b', off' + k * 3, none⟩ = some (.int .u64 id') ∧ w'.cell? ⟨b', off' + k * 3 + 1, none⟩ = some (.slice a1' v'.length c1') ∧ w'.cell? ⟨b', off' + k * 3 + 2, none⟩ = some (.slice a2' o'.length c2'))
        (first | exact ⟨by with_reducible assumption, by with_reducible assumption, by with_reducible assumption, by with_reducible assumption, by with_reducible assumption, by with_reducible assumption⟩)
        (first
          | (go_at_call 120; (with_reducible refine (HSN.out _ (by with_reducible assumption)).mono ?_); rintro e w2 ⟨rfl, b2, y1, y2, y3, y4, y5, y6⟩)
          | fail)
      all_goals
        have HB2 := Lib.hid (HB.out.trans (b2.mono hsz))
        clear b2 y1 y2 y3 y4 y5 y6 j1 j2 j3 j4 j5 j6 hd
        go_wp2
        go_roundw
        case rel => exact ⟨k + 1, by omega, by go_num, HB2⟩
        case measure => simp [intOf]; omega
    · obtain rfl : k = L.length := by omega
      have e1 : decide ((L.length : Int) < (L.length : Int)) = false := decide_eq_false (by omega)
      go_wp2
      go_ret
      exact ⟨rfl, HB.out⟩
set_option maxRecDepth 100000 in
set_option maxHeartbeats 4000000 in
theorem sameGraph_any (A : Option Addr) (c : Nat) (L : List Gn) (B : Option Addr) (d : Nat) (M : List Gn) (s : Int) (w : World) (D : Nat) (hD : D ≤ w.heap.size) (hx : RdG w D A L) (hy : RdG w D B M) (hv : pns L = pns M) (hl : L.length ≤ 20000) (hs : ∀ x ∈ pns L, x.2.1.length ≤ 20000 ∧ x.2.2.length ≤ 20000) :
    Calls Try.prog 32 #[.agg #[.slice A L.length c, .int .i64 s], .agg #[.slice B M.length d, .int .i64 s]] w fun e w' => e = .returned (.bool true) ∧ Below w.heap.size w w' := by
  obtain ⟨W0, W1, B0, hsz⟩ := twoN w #[.slice A L.length c, .int .i64 s] #[.slice B M.length d, .int .i64 s] 24
  have SN := Lib.hid (sameNodes_any A c L B d M _ _ rfl rfl _ D (by rw [hsz]; omega) (hx.below (B0.mono hD)) (hy.below (B0.mono hD)) hv hl hs)
  have HB := Lib.hid B0
  have HW0 := Lib.hid W0
  have HW1 := Lib.hid W1
  have p0 := W0.cell 0
  have p1 := W0.cell 1
  have q0 := W1.cell 0
  have q1 := W1.cell 1
  clear W0 W1 B0 hsz hx hy hv hs
  have e1 : (s == s) = true := by simp
  go_enter Try.func32, Try.ntmps32
  go_wp2_with (go_at_call 87; refine SN.out.mono ?_; rintro e w2 ⟨rfl, b2⟩
               have z0 := HW0.out.below b2 HW0.out.lt
               have z1 := HW1.out.below b2 HW1.out.lt
               have r1 : w2.cell? ⟨w.heap.size, 1, none⟩ = some (.int .i64 s) := z0.cell 1
               have t1 : w2.cell? ⟨w.heap.size + 1, 1, none⟩ = some (.int .i64 s) := z1.cell 1
               have B2 := Lib.hid (HB.out.trans (b2.mono HB.out.size))
               clear z0 z1 b2)
  go_ret
  exact ⟨rfl, B2.out⟩
set_option maxRecDepth 100000 in
set_option maxHeartbeats 4000000 in
/-- A twin of a node that is still what it was made of. -/
theorem leftNode_any (id : Int) (a1 a2 a3 a4 : Option Addr) (c1 c2 c3 c4 : Nat) (v o : List Int) (w : World) (D : Nat) (hD : D ≤ w.heap.size) (h1 : Rd .i8 w D a1 (v ++ [77])) (h2 : Rd .i64 w D a2 (o ++ [77])) (h3 : Rd .i8 w D a3 v) (h4 : Rd .i64 w D a4 o)
    (l1 : v.length ≤ 1000000) (l2 : o.length ≤ 1000000) (k1 : v.length < c1 ∧ c1 ≤ 9223372036854775807) (k2 : o.length < c2 ∧ c2 ≤ 9223372036854775807) (k3 : v.length ≤ c3 ∧ c3 ≤ 9223372036854775807) (k4 : o.length ≤ c4 ∧ c4 ≤ 9223372036854775807) :
    Calls Try.prog 92 #[.agg #[.int .u64 id, .slice a1 v.length c1, .slice a2 o.length c2], .agg #[.int .u64 id, .slice a3 v.length c3, .slice a4 o.length c4]] w fun e w' => e = .returned (.bool true) ∧ Below w.heap.size w w' := by
  obtain ⟨W0, W1, B0, hsz⟩ := twoN w #[.int .u64 id, .slice a1 v.length c1, .slice a2 o.length c2] #[.int .u64 id, .slice a3 v.length c3, .slice a4 o.length c4] 65
  have L8 := Lib.hid (fun W (h : Below w.heap.size w W) => leftInt8s_any a1 a3 c1 c3 v _ rfl W D (h3.below (h.mono hD)) (h1.below (h.mono hD)) k3.1 k1.1 ⟨k3.2, by omega⟩ k1.2)
  have LI := Lib.hid (fun W (h : Below w.heap.size w W) => leftInts_any a2 a4 c2 c4 o _ rfl W D (h4.below (h.mono hD)) (h2.below (h.mono hD)) k4.1 k2.1 ⟨k4.2, by omega⟩ k2.2)
  have HB := Lib.hid B0
  have p0 := W0.cell 0
  have p1 := W0.cell 1
  have p2 := W0.cell 2
  have q0 := W1.cell 0
  have q1 := W1.cell 1
  have q2 := W1.cell 2
  clear W0 W1 B0 hsz h1 h2 h3 h4 k1 k2 k3 k4
  have e1 : (id == id) = true := by simp
  go_enter Try.func92, Try.ntmps92
  go_wp2_with (first
    | (go_at_call 123; refine (L8.out _ HB.out).mono ?_; rintro e w2 ⟨rfl, nq, rfl⟩)
    | (go_at_call 33; refine (LI.out _ (below_drewN HB.out _)).mono ?_; rintro e w3 ⟨rfl, mq, rfl⟩))
  go_ret
  exact ⟨rfl, below_drewN HB.out _⟩
end Go.Proofs.Ytjihnkoimbcfnaa
