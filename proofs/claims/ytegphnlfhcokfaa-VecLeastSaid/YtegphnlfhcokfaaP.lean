/- The walk of the statement VecLeast. -/
import Derived.Test.YtegphnlfhcokfaaO
import Derived.Test.YtegphnlfhcokfaaAv
namespace Go.Proofs.Ytegphnlfhcokfaa
open Go.RowKit Go.Shelf
set_option linter.unusedVariables false
/-- What VectorsSize answers: a size that is not less than how many there are. -/
def SizeYes (w : World) (n : Nat) (e : Ending) (w' : World) : Prop := ∃ r : Int, e = .returned (.int .i64 r) ∧ (n : Int) ≤ r ∧ r ≤ 300000000000000 ∧ w = w'
set_option maxHeartbeats 400000 in
theorem vsize_any (A : Option Addr) (c : Nat) (L : List Vc) (w : World) (B : Nat) (hx : RdV w B A L) (hl : L.length ≤ 140737488355328) (hv : ∀ v ∈ L, v.2.2.length ≤ 140737488355328) :
    Calls Try.prog 28 #[.slice A L.length c] w (SizeYes w L.length) := by
  have HV := Lib.hid hv
  clear hv
  go_enter Try.func28, Try.ntmps28
  go_wp2
  go_loop [3, 4] (fun s i => ∃ (k : Nat) (r : Int), k ≤ L.length ∧ i = .int .i64 k ∧ s = .int .i64 r ∧ (L.length : Int) ≤ r ∧ r ≤ 200000000000000) (fun _ i => L.length - (intOf i).toNat)
  case atStart => exact ⟨0, L.length, by omega, rfl, rfl, by omega, by omega⟩
  case round =>
    obtain ⟨k, r, hk, rfl, rfl, hr1, hr2⟩ := hrel
    by_cases hlt : k < L.length
    · by_cases hr : r ≤ 1000000
      · obtain ⟨b, off, a1, c1, v1, rfl, hB, hck, hrd, hv1⟩ := hx.at_ hlt
        have hl1 : v1.length ≤ 140737488355328 := HV.out (a1, c1, v1) (List.mem_of_getElem? hv1.out)
        have hd1 : decide (r ≤ 1000000) = true := decide_eq_true hr
        clear hv1
        go_wp2
        go_round
        case rel => exact ⟨k + 1, r + v1.length, by omega, by go_num, rfl, by omega, by omega⟩
        case measure => simp [intOf]; omega
      · have hd1 : decide (r ≤ 1000000) = false := decide_eq_false hr
        go_wp2
        go_ret
        exact ⟨r, rfl, hr1, by omega, rfl⟩
    · go_wp2
      go_ret
      exact ⟨r, rfl, hr1, by omega, rfl⟩
theorem costL_take (vs : List (List Int)) (m v : List Int) (k : Nat) (h : vs[k]? = some v) : costL (vs.take (k + 1)) m = costL (vs.take k) m + far v m := by
  have hk := (List.getElem?_eq_some_iff.1 h).1
  unfold costL
  rw [List.take_succ_eq_append_getElem hk, List.map_append, List.sum_append]
  rw [List.getElem?_eq_getElem hk] at h
  simp only [Option.some.injEq] at h
  rw [h]; simp
theorem costL_bd (m : List Int) (bm : ∀ x ∈ m, -128 ≤ x ∧ x ≤ 127) : ∀ (vs : List (List Int)), B8 vs → (∀ v ∈ vs, v.length ≤ 64) → 0 ≤ costL vs m ∧ costL vs m ≤ 4161600 * vs.length
  | [], _, _ => by simp [costL]
  | v :: vs, h, hl => by
    have h1 := costL_bd m bm vs (fun u hu => h u (by simp [hu])) (fun u hu => hl u (by simp [hu]))
    have h2 := far_bd (h v (by simp)) bm (hl v (by simp))
    rw [costL_cons]; simp only [List.length_cons]; omega
set_option maxHeartbeats 400000 in
theorem cost_any (A M : Option Addr) (c d : Nat) (L : List Vc) (m : List Int) (w : World) (hx : RdV w w.heap.size A L) (hm : Rd .i8 w w.heap.size M m) (hb : B8 (vecs L)) (bm : ∀ x ∈ m, -128 ≤ x ∧ x ≤ 127) (hmay : mayB (vecs L) = true) (hd : m.length = dimOf (vecs L)) :
    Calls Try.prog 31 #[.slice A L.length c, .slice M (dimOf (vecs L)) d] w fun e w' => e = .returned (.int .i64 (costL (vecs L) m)) ∧ Below w.heap.size w w' := by
  have hmy := mayB_yes hmay
  rw [vecs_len] at hmy
  have hl2 : L.length ≤ 2048 := hmy.2.1
  have hd1 : 1 ≤ dimOf (vecs L) := hmy.2.2.1
  have hd2 : dimOf (vecs L) ≤ 64 := hmy.2.2.2.1
  have HM := Lib.hid hmy.2.2.2.2
  have hall : ∀ v ∈ vecs L, v.length ≤ 64 := fun v hv => by
    obtain ⟨i, hi, rfl⟩ := List.getElem_of_mem hv
    have := hmy.2.2.2.2 i (by rwa [vecs_len] at hi)
    rw [List.getElem?_eq_getElem hi] at this
    simp at this; omega
  have HBD := Lib.hid (fun k => costL_bd m bm ((vecs L).take k) (b8_take hb k) (fun v hv => hall v (List.mem_of_mem_take hv)))
  have HB := Lib.hid hb
  have HD := Lib.hid hd
  have HBM := Lib.hid bm
  clear hmy hmay hall hb hd bm
  generalize dimOf (vecs L) = D at hd1 hd2 HM HD ⊢
  go_enter Try.func31, Try.ntmps31
  go_wp2
  go_loopw [5, 6] (fun s i wr => ∃ k : Nat, k ≤ L.length ∧ i = .int .i64 k ∧ s = .int .i64 (costL ((vecs L).take k) m) ∧ Below w.heap.size w wr) (fun _ i _ => L.length - (intOf i).toNat)
  case atStart => exact ⟨0, by omega, rfl, by simp [costL], Below.refl _ _⟩
  case round =>
    obtain ⟨k, hk, rfl, rfl, hB⟩ := hrel
    by_cases hlt : k < L.length
    · obtain ⟨b, off, a1, c1, v1, rfl, _, hck, hrd, hv1⟩ := (hx.below hB).at_ hlt
      have hvl : v1.length = D := by have := HM.out k hlt; rw [vecs_at hv1.out] at this; exact this
      have H1 := dist_yes a1 M c1 d v1 m (by omega) (by omega) (by rw [HD.out, hvl]) D (by omega) wr (hrd.more hB.size) ((hm.below hB).more hB.size) (b8_at HB.out (vecs_at hv1.out)) HBM.out
      have kf := far_bd (b8_at HB.out (vecs_at hv1.out)) HBM.out (by omega)
      have HS := Lib.hid (costL_take (vecs L) m v1 k (vecs_at hv1.out))
      rw [hvl] at H1 hck
      have hs := HBD.out k
      rw [List.length_take, vecs_len] at hs
      have hs' : 0 ≤ costL ((vecs L).take k) m ∧ costL ((vecs L).take k) m ≤ 8522956800 := by omega
      have HC := Lib.hid H1
      clear H1 hrd hv1 hvl hs
      generalize far v1 m = f at HC kf HS
      generalize costL ((vecs L).take k) m = C at hs' HS ⊢
      go_wp2_with fail
      refine HC.out.mono ?_
      rintro e w5 ⟨rfl, hB5⟩
      go_wp2
      go_roundw
      case rel => exact ⟨k + 1, by omega, by go_num, by rw [HS.out], hB.trans (hB5.mono hB.size)⟩
      case measure => simp [intOf]; omega
    · have e : (vecs L).take k = vecs L := List.take_of_length_le (by rw [vecs_len]; omega)
      rw [e]
      clear e
      go_wp2
      go_ret
      exact ⟨rfl, hB⟩
theorem beyond_one (n : Nat) (hn : n ≤ 140737488355328) (w : World) : Calls Try.prog 11 #[.slice (some ⟨w.heap.size, 0, none⟩) 1 1] (w.alloc (.cells #[.int .i64 (n : Int)] 3)) fun e w' => e = .returned (.bool (bey [(n : Int)])) ∧ w.alloc (.cells #[.int .i64 (n : Int)] 3) = w' :=
  beyond_any (some ⟨w.heap.size, 0, none⟩) 1 [(n : Int)] 1 rfl _ (w.heap.size + 1) (rd_newF w .i64 3 [(n : Int)] (0, 0)) (by simp; omega) (by simp)
set_option maxRecDepth 100000 in
set_option maxHeartbeats 1000000 in
/-- The cases in which nothing is asked: too much, or refused. -/
theorem vecLeast_no (A M : Option Addr) (c d n : Nat) (L : List Vc) (w : World) (hx : RdV w w.heap.size A L) (hl : L.length ≤ 140737488355328) (hv : ∀ v ∈ L, v.2.2.length ≤ 140737488355328) (hn : n ≤ 140737488355328)
    (hno : bey [(n : Int)] = true ∨ mayB (vecs L) = false) :
    Calls Try.prog 8 #[.slice A L.length c, .slice M n d] w fun e w' => e = .returned (.bool true) ∧ Below w.heap.size w w' := by
  have HA := Lib.hid alive_any
  have HV := Lib.hid hv
  have HNO := Lib.hid hno
  clear hv hno
  go_enter Try.func8, Try.ntmps8
  go_wp2_with fail
  refine (HA.out w).mono ?_
  rintro e w1 ⟨rfl, hB1⟩
  have hx1 := (hx.below hB1).more hB1.size
  have H28 := Lib.hid (vsize_any A c L w1 _ hx1 hl HV.out)
  go_wp2_with fail
  refine H28.out.mono ?_
  intro e w2 h2
  obtain ⟨r, rfl, hr1, hr2, rfl⟩ := h2
  by_cases hr : 50000 < r
  · have hrd : decide (50000 < r) = true := decide_eq_true hr
    go_wp2_with fail
    refine (HA.out _).mono ?_
    rintro e w3 ⟨rfl, hB3⟩
    go_wp2
    go_ret
    exact ⟨rfl, hB1.trans (hB3.mono hB1.size)⟩
  · have hrd : decide (50000 < r) = false := decide_eq_false hr
    have H11 := Lib.hid (beyond_one n hn w1)
    have hB2 := below_one hB1 (.cells #[.int .i64 (n : Int)] 3)
    have hB12 : Below w1.heap.size w1 (w1.alloc (.cells #[.int .i64 (n : Int)] 3)) := (Below.refl _ _).alloc (Nat.le_refl _) _
    have hx2 := (hx1.below hB12).more hB12.size
    clear H28 hx1 hx
    go_wp2_with fail
    refine H11.out.mono ?_
    rintro e w2 ⟨rfl, rfl⟩
    generalize w1.alloc (.cells #[.int .i64 (n : Int)] 3) = w2 at hB2 hx2 ⊢
    clear H11 hB12
    cases hbey : bey [(n : Int)] with
    | true =>
      go_wp2_with fail
      refine (HA.out _).mono ?_
      rintro e w3 ⟨rfl, hB3⟩
      go_wp2
      go_ret
      exact ⟨rfl, hB2.trans (hB3.mono hB2.size)⟩
    | false =>
      have hmay : mayB (vecs L) = false := by
        rcases HNO.out with h | h
        · rw [hbey] at h; cases h
        · exact h
      have H29 := Lib.hid (mean_no A c L _ rfl w2 _ hx2 hl hmay)
      have H30 := Lib.hid (middle_no A c L _ rfl w2 _ hx2 hl hmay)
      clear hmay hbey hx2
      go_wp2_with fail
      refine H29.out.mono ?_
      rintro e w3 ⟨rfl, rfl⟩
      go_wp2_with fail
      refine H30.out.mono ?_
      rintro e w3 ⟨rfl, rfl⟩
      go_wp2
      go_ret
      exact ⟨rfl, hB2⟩
set_option maxRecDepth 100000 in
set_option maxHeartbeats 4000000 in
theorem vecLeast_yes (A M : Option Addr) (c d : Nat) (L : List Vc) (os : List Int) (w : World) (hx : RdV w w.heap.size A L) (ro : Rd .i8 w w.heap.size M os) (hv : ∀ v ∈ L, v.2.2.length ≤ 140737488355328) (hn : os.length ≤ 140737488355328)
    (hmay : mayB (vecs L) = true) (hb : B8 (vecs L)) (bo : ∀ x ∈ os, -128 ≤ x ∧ x ≤ 127) (hbey : bey [(os.length : Int)] = false) :
    Calls Try.prog 8 #[.slice A L.length c, .slice M os.length d] w fun e w' => e = .returned (.bool true) ∧ Below w.heap.size w w' := by
  have HA := Lib.hid alive_any
  have HV := Lib.hid hv
  have hmy := mayB_yes hmay
  rw [vecs_len] at hmy
  have hl1 : 1 ≤ L.length := hmy.1
  have hl2 : L.length ≤ 2048 := hmy.2.1
  have hd1 : 1 ≤ dimOf (vecs L) := hmy.2.2.1
  have hd2 : dimOf (vecs L) ≤ 64 := hmy.2.2.2.1
  have HM := Lib.hid hmy.2.2.2.2
  have HMAY := Lib.hid hmay
  have HBB := Lib.hid hb
  have HBO := Lib.hid bo
  have HMB := Lib.hid (meanL_bd (by rw [vecs_len]; exact hl1) hb)
  have HML := Lib.hid (meanL_len (vecs L))
  have HBEY := Lib.hid hbey
  clear hv hmy hmay hb bo hbey
  go_enter Try.func8, Try.ntmps8
  go_wp2_with fail
  refine (HA.out w).mono ?_
  rintro e w1 ⟨rfl, hB1⟩
  have hx1 := (hx.below hB1).more hB1.size
  have H28 := Lib.hid (vsize_any A c L w1 _ hx1 (by omega) HV.out)
  go_wp2_with fail
  refine H28.out.mono ?_
  intro e w2 h2
  obtain ⟨r, rfl, hr1, hr2, rfl⟩ := h2
  by_cases hr : 50000 < r
  · have hrd : decide (50000 < r) = true := decide_eq_true hr
    go_wp2_with fail
    refine (HA.out _).mono ?_
    rintro e w3 ⟨rfl, hB3⟩
    go_wp2
    go_ret
    exact ⟨rfl, hB1.trans (hB3.mono hB1.size)⟩
  · have hrd : decide (50000 < r) = false := decide_eq_false hr
    have H11 := beyond_one os.length hn w1
    rw [HBEY.out] at H11
    have H11' := Lib.hid H11
    have hB2 := below_one hB1 (.cells #[.int .i64 (os.length : Int)] 3)
    clear H28 hx1 H11 HA HV
    go_wp2_with fail
    refine H11'.out.mono ?_
    rintro e w2 ⟨rfl, rfl⟩
    generalize w1.alloc (.cells #[.int .i64 (os.length : Int)] 3) = w2 at hB2 ⊢
    clear H11' hB1 hr1 hr2 hr hrd
    have hx2 := (hx.below hB2).more hB2.size
    have H29 := Lib.hid (mean_yes A c L _ rfl w2 hx2 HMAY.out HBB.out)
    go_wp2_with fail
    refine H29.out.mono ?_
    rintro e w3 ⟨rfl, hown3, hB3⟩
    have hB3' := hB2.trans (hB3.mono hB2.size)
    have hm3 : Rd .i8 w3 w3.heap.size (some ⟨w2.heap.size, 0, none⟩) (meanL (vecs L)) := rd_own hown3
    have hx3 := (hx.below hB3').more hB3'.size
    have H30 := Lib.hid (middle_yes A c L _ rfl w3 hx3 HMAY.out HBB.out)
    generalize w2.heap.size = gm at hm3 ⊢
    clear H29 hown3 hB3 hB2 hx2 hx3
    go_wp2_with fail
    refine H30.out.mono ?_
    intro e w4 h4
    obtain ⟨k, rfl, hkl, hmid, hB4⟩ := h4
    rw [vecs_len] at hkl hmid
    have HMID := Lib.hid hmid
    have hB4' := hB3'.trans (hB4.mono hB3'.size)
    have hm4 := (hm3.below hB4).more hB4.size
    clear H30 hmid hm3 hB4 hB3'
    have z1 : decide ((k : Int) < 0) = false := decide_eq_false (by omega)
    have z2 : decide ((L.length : Int) ≤ (k : Int)) = false := decide_eq_false (by omega)
    have KEY : Hid (∀ W, Below w4.heap.size w4 W → ∀ (i : Nat) (a1 : Option Addr) (c1 : Nat) (v1 : List Int), L[i]? = some (a1, c1, v1) → i < L.length → Calls Try.prog 13 #[.slice a1 v1.length c1, .slice (some ⟨gm, 0, none⟩) (dimOf (vecs L)) (dimOf (vecs L))] W fun e w' => e = .returned (.tuple #[.int .i64 (frAt (vecs L) (meanL (vecs L)) i), .int .i64 0]) ∧ Below w4.heap.size w4 w') := fun W hW i a1 c1 v1 hi hil => by
      have hvl : v1.length = dimOf (vecs L) := by have := HM.out i hil; rw [vecs_at hi] at this; exact this
      have hWw := hB4'.trans (hW.mono hB4'.size)
      obtain ⟨_, _, a', c', v', _, _, _, hrd, hv'⟩ := hx.at_ hil
      have e1 := hv'.out; rw [hi] at e1; cases e1
      have := dist_yes a1 (some ⟨gm, 0, none⟩) c1 (dimOf (vecs L)) v1 (meanL (vecs L)) (by omega) (by omega) (by rw [HML.out, hvl]) (dimOf (vecs L)) (by omega) W ((hrd.below hWw).more hWw.size) ((hm4.below hW).more hW.size) (b8_at HBB.out (vecs_at hi)) HMB.out
      refine this.mono fun e w' h => ⟨?_, hW.trans (h.2.mono hW.size)⟩
      rw [h.1]; unfold frAt; rw [vecs_at hi]; rfl
    have KB : Hid (∀ i, i < L.length → 0 ≤ frAt (vecs L) (meanL (vecs L)) i ∧ frAt (vecs L) (meanL (vecs L)) i ≤ 4161600) := fun i hil => by
      have hvl := HM.out i hil
      obtain ⟨_, _, a', c', v', _, _, _, hrd, hv'⟩ := hx.at_ hil
      unfold frAt
      rw [vecs_at hv'.out] at hvl ⊢
      exact far_bd (b8_at HBB.out (vecs_at hv'.out)) HMB.out (by simp at hvl ⊢; omega)
    obtain ⟨bk, ok, ak, ck, vk, rfl, _, hckk, _, hvk⟩ := (hx.below hB4').at_ hkl
    have HK := Lib.hid (KEY.out w4 (Below.refl _ _) k ak ck vk hvk.out hkl)
    clear hvk
    go_wp2_with fail
    refine HK.out.mono ?_
    rintro e w5 ⟨rfl, hB5⟩
    clear HK hckk z1 z2
    go_wp2
    go_loopw [11] (fun i wr => ∃ t : Nat, t ≤ L.length ∧ i = .int .i64 t ∧ Below w4.heap.size w4 wr) (fun i _ => L.length - (intOf i).toNat)
    case atStart => exact ⟨0, by omega, rfl, hB5⟩
    case round =>
      clear hB5
      obtain ⟨t, ht, rfl, hB⟩ := hrel
      by_cases hlt : t < L.length
      · have hBw := hB4'.trans (hB.mono hB4'.size)
        obtain ⟨b1, o1, a1, c1, v1, hA, _, hck1, _, hv1⟩ := (hx.below hBw).at_ hlt
        simp only [Option.some.injEq, Addr.mk.injEq, and_true] at hA
        obtain ⟨rfl, rfl⟩ := hA
        have HT := Lib.hid (KEY.out wr hB t a1 c1 v1 hv1.out hlt)
        have m1 := HMID.out.1 t hlt
        have m2 : t < k → frAt (vecs L) (meanL (vecs L)) k < frAt (vecs L) (meanL (vecs L)) t := HMID.out.2 t
        have M2 := Lib.hid m2
        have d1 : decide (frAt (vecs L) (meanL (vecs L)) t < frAt (vecs L) (meanL (vecs L)) k) = false := decide_eq_false (by omega)
        clear hv1 m2 hBw
        generalize frAt (vecs L) (meanL (vecs L)) t = ft at HT d1 m1 M2
        generalize frAt (vecs L) (meanL (vecs L)) k = fk at d1 m1 M2 ⊢
        by_cases heq : ft = fk
        · have e1 : (ft == fk) = true := by simp [heq]
          have htk : ¬ t < k := fun h => by have := M2.out h; omega
          have e2 : decide ((t : Int) < (k : Int)) = false := decide_eq_false (by omega)
          have e3 : decide (t < k) = false := decide_eq_false htk
          clear heq htk
          go_wp2_with fail
          refine HT.out.mono ?_
          rintro e w7 ⟨rfl, hB7⟩
          go_wp2
          go_roundw
          case rel => exact ⟨t + 1, by omega, by go_num, hB7⟩
          case measure => simp [intOf]; omega
        · have e1 : (ft == fk) = false := by simp [heq]
          clear heq
          go_wp2_with fail
          refine HT.out.mono ?_
          rintro e w7 ⟨rfl, hB7⟩
          go_wp2
          go_roundw
          case rel => exact ⟨t + 1, by omega, by go_num, hB7⟩
          case measure => simp [intOf]; omega
      · have hBw := hB4'.trans (hB.mono hB4'.size)
        by_cases hon : os.length = dimOf (vecs L)
        · have ne : ((os.length : Int) != (dimOf (vecs L) : Int)) = false := by simp; omega
          have hmw := (hm4.below hB).more hB.size
          have H1 := Lib.hid (cost_any (some ⟨bk, ok, none⟩) (some ⟨gm, 0, none⟩) c (dimOf (vecs L)) L (meanL (vecs L)) wr ((hx.below hBw).more hBw.size) hmw HBB.out HMB.out HMAY.out HML.out)
          have H2 := Lib.hid (fun W (hW : Below w.heap.size w W) => cost_any (some ⟨bk, ok, none⟩) M c d L os W ((hx.below hW).more hW.size) ((ro.below hW).more hW.size) HBB.out HBO.out HMAY.out hon)
          rw [hon] at ne ⊢
          have hle := cost_least (vecs L) os HMAY.out hon
          have hdle : decide (costL (vecs L) (meanL (vecs L)) ≤ costL (vecs L) os) = true := decide_eq_true hle
          clear hon hmw hle
          generalize costL (vecs L) (meanL (vecs L)) = C1 at H1 hdle
          generalize costL (vecs L) os = C2 at H2 hdle
          go_wp2_with fail
          refine H1.out.mono ?_
          rintro e w8 ⟨rfl, hB8⟩
          have hB8' := hBw.trans (hB8.mono hBw.size)
          go_wp2_with fail
          refine (H2.out w8 hB8').mono ?_
          rintro e w9 ⟨rfl, hB9⟩
          go_wp2
          go_ret
          exact ⟨rfl, hB8'.trans (hB9.mono hB8'.size)⟩
        · have ne : ((os.length : Int) != (dimOf (vecs L) : Int)) = true := by simp; omega
          clear hon
          go_wp2
          go_ret
          exact ⟨rfl, hBw⟩
end Go.Proofs.Ytegphnlfhcokfaa
