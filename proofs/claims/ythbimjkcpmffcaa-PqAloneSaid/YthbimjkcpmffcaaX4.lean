/- The walk of PqMade. -/
import Derived.Test.YthbimjkcpmffcaaX2
namespace Go.Proofs.Ythbimjkcpmffcaa
open Go.RowKit
set_option linter.unusedVariables false
theorem bans_arg {w w' : World} {A : Option Addr} {c : Nat} {L : List Pc} {ps : List (List (List Int))} (o : OwnP w' w.heap.size A c L) (e : words L = ps) (h1 : sizeP ps ≤ 20000) (h2 : B88 ps) : PArg w' A L := ⟨o.rd, by unfold PSmall; rw [e]; exact h1, by rw [e]; exact h2⟩
theorem sizeL_all {vs : List (List Int)} {n : Nat} (h : ∀ v ∈ vs, v.length = n) : sizeL vs = vs.length + vs.length * n := by
  unfold sizeL
  congr 1
  induction vs with
  | nil => simp
  | cons a l ih =>
    rw [List.map_cons, List.sum_cons, ih (fun v hv => h v (List.mem_cons_of_mem _ hv)), h a List.mem_cons_self, List.length_cons, Nat.add_mul]
    omega
/-- How much a book is. -/
theorem book_size {ps : List (List (List Int))} {d k : Nat} (h : BookOk ps d) (hk : ∀ p, p < ps.length → (pAt ps p).length = k) : sizeP ps = ps.length + (ps.length * k + k * d) := by
  have key : ∀ q, q ≤ ps.length → ((ps.take q).map sizeL).sum = q * k + k * beg q ps.length d := by
    intro q
    induction q with
    | zero => intro _; simp [beg_zero]
    | succ q ih =>
      intro hq
      have hq2 : q < ps.length := by omega
      have e : ps[q]? = some (pAt ps q) := by unfold pAt; rw [List.getElem?_eq_getElem hq2]; rfl
      have e2 : beg q ps.length d ≤ beg (q + 1) ps.length d := beg_mono (by omega)
      rw [sumSz_take e, ih (by omega), sizeL_all (h.all hq2), hk q hq2, Nat.mul_sub]
      have e3 := Nat.mul_le_mul_left k e2
      rw [Nat.add_mul]
      omega
  have := key ps.length (Nat.le_refl _)
  rw [List.take_length, beg_all h.2.2.1] at this
  unfold sizeP
  rw [this]
theorem book_small {vs : List (List Int)} {n k r s : Nat} (hb : BookOk (bookL vs n k r s) (dimOf vs)) (hk : firstL vs s k = firstL vs s k) (hl : ∀ p, p < n → (pAt (bookL vs n k r s) p).length = k) (h : k + k * dimOf vs ≤ 9000) : sizeP (bookL vs n k r s) ≤ 20000 := by
  have e := book_size hb (k := k) (fun p hp => hl p (by rwa [bookL_len] at hp))
  rw [bookL_len] at e
  have h1 : n ≤ dimOf vs := by have := hb.2.2.2.1; rwa [bookL_len] at this
  have h2 := Nat.mul_le_mul_right k h1
  have h3 := hb.2.1
  have h4 : dimOf vs * k = k * dimOf vs := Nat.mul_comm _ _
  omega
theorem book_b8 {vs : List (List Int)} {n k r s : Nat} (h : B8 vs) : B88 (bookL vs n k r s) := fun l hl => by
  unfold bookL at hl
  obtain ⟨p, hp, rfl⟩ := List.mem_map.1 hl
  have h1 : B8 (subL vs p n) := fun u hu => by
    unfold subL at hu
    obtain ⟨v, hv, rfl⟩ := List.mem_map.1 hu
    exact part_b8 (h v hv)
  exact stepsL_b8 (fun v hv => h1 v (firstL_mem hv)) h1 r
theorem book_words {vs : List (List Int)} {n k r s p : Nat} (hp : p < n) (hk : k ≤ vs.length) : (pAt (bookL vs n k r s) p).length = k := by
  rw [bookL_at hp, stepsL_len]
  exact firstL_len (by rw [sub_len]; exact hk)
set_option maxRecDepth 100000 in
set_option maxHeartbeats 4000000 in
theorem pqMade_main (hC : PqCheckSpec) (hE : PqEncodeSpec) (hD : PqDecodeSpec) (hT : PqTableSpec) (hL : PqLookSpec) (hTr : PqTrainSpec) (A : Option Addr) (c : Nat) (L : List Vc) (N K R : Int) (S : Nat) (w : World) (hx : Given w A L) (hr : RoomOk L) (hs : S < 18446744073709551616) :
    Calls Try.prog 8 #[.slice A L.length c, .agg #[.int .i64 N, .int .i64 K, .int .i64 R, .int .u64 S]] w fun e w' => e = .returned (.bool true) ∧ Below w.heap.size w w' := by
  have AL := Lib.hid (fun w => alive8_any hC hE hD hT hL w)
  have HC := Lib.hid hC
  have HE := Lib.hid hE
  have HD := Lib.hid hD
  have HTr := Lib.hid hTr
  have HR := Lib.hid hr
  have hb0 : Below w.heap.size w (w.alloc (.cells #[.int .i64 N, .int .i64 K, .int .i64 R, .int .u64 S] 73)) := below_one (Below.refl _ _) _
  have HX0 := Lib.hid (hx.below hb0)
  have C0 := Lib.hid hb0
  have BX0 := Lib.hid (show Whole (w.alloc (.cells #[.int .i64 N, .int .i64 K, .int .i64 R, .int .u64 S] 73)) w.heap.size 73 #[.int .i64 N, .int .i64 K, .int .i64 R, .int .u64 S] from Whole.new w 73 _)
  have HSD := Lib.hid hs
  have HVL := Lib.hid (vecs_len L)
  clear hC hE hD hT hL hTr hx hr hb0 hs
  go_enter Try.func8, Try.ntmps8
  go_wp2_with fail
  obtain ⟨w0, ew0⟩ : ∃ w0, w.alloc (.cells #[.int .i64 N, .int .i64 K, .int .i64 R, .int .u64 S] 73) = w0 := ⟨_, rfl⟩
  rw [ew0] at HX0 C0 BX0 ⊢
  obtain ⟨g, eg⟩ : ∃ g, w.heap.size = g := ⟨_, rfl⟩
  rw [eg] at BX0 ⊢
  clear ew0 eg
  refine (AL.out _).mono ?_
  rintro e w1 ⟨rfl, b⟩
  have HX1 := Lib.hid (HX0.out.below b)
  have BX1 := Lib.hid (BX0.out.below b BX0.out.lt)
  have C1 := Lib.hid (C0.out.trans (b.mono C0.out.size))
  clear HX0 BX0 C0 b
  dsimp only
  by_cases hl0 : L.length = 0
  · have e1 : ((L.length : Int) == 0) = true := beq_iff_eq.2 (by omega)
    clear hl0
    go_wp2_with fail
    refine (AL.out _).mono ?_
    rintro e w9 ⟨rfl, b9⟩
    go_wp2
    go_ret
    exact ⟨rfl, C1.out.trans (b9.mono C1.out.size)⟩
  have e1 : ((L.length : Int) == 0) = false := by rw [beq_eq_false_iff_ne]; omega
  by_cases hl64 : 64 < L.length
  · have e2 : decide ((64 : Int) < (L.length : Int)) = true := decide_eq_true (by omega)
    clear hl64 hl0
    go_wp2_with fail
    refine (AL.out _).mono ?_
    rintro e w9 ⟨rfl, b9⟩
    go_wp2
    go_ret
    exact ⟨rfl, C1.out.trans (b9.mono C1.out.size)⟩
  have e2 : decide ((64 : Int) < (L.length : Int)) = false := decide_eq_false (by omega)
  have hLn : 1 ≤ L.length ∧ L.length ≤ 64 := by omega
  have HLN := Lib.hid hLn
  clear hl0 hl64 hLn
  go_wp2_with fail
  refine (size_any A c L _ rfl w1 _ HX1.out.rd HX1.out.len HX1.out.vec).mono ?_
  rintro e w2 ⟨⟨z, rfl, hz⟩, rfl⟩
  dsimp only
  by_cases hz1 : 1000 < z
  · have e3 : decide ((1000 : Int) < z) = true := decide_eq_true hz1
    go_wp2_with fail
    refine (AL.out _).mono ?_
    rintro e w9 ⟨rfl, b9⟩
    go_wp2
    go_ret
    exact ⟨rfl, C1.out.trans (b9.mono C1.out.size)⟩
  have e3 : decide ((1000 : Int) < z) = false := decide_eq_false hz1
  have HSZ := Lib.hid (show sizeL (vecs L) ≤ 1000 by rcases hz.2.2 with h | h <;> omega)
  clear hz hz1
  have c2 : w1.cell? ⟨g, 2, none⟩ = some (.int .i64 R) := BX1.out.cell 2
  have c0 : w1.cell? ⟨g, 0, none⟩ = some (.int .i64 N) := BX1.out.cell 0
  have c3 : w1.cell? ⟨g, 3, none⟩ = some (.int .u64 S) := BX1.out.cell 3
  by_cases hR : 10 < R
  · have e4 : decide ((10 : Int) < R) = true := decide_eq_true hR
    go_wp2_with fail
    refine (AL.out _).mono ?_
    rintro e w9 ⟨rfl, b9⟩
    go_wp2
    go_ret
    exact ⟨rfl, C1.out.trans (b9.mono C1.out.size)⟩
  have e4 : decide ((10 : Int) < R) = false := decide_eq_false hR
  have HP1 := Lib.hid (HX1.out.arg (show Small L by have := HSZ.out; unfold Small; omega))
  clear HX1
  go_wp2_with fail
  refine (HTr.out A c L N L.length R S w1 HP1.out HR.out HSD.out).mono ?_
  rintro e w2 ⟨A2, c2b, T, rfl, o, ap, ew, b⟩
  clear c0 c2 c3
  have HP2 := Lib.hid (HP1.out.below b)
  have BX2 := Lib.hid (BX1.out.below b BX1.out.lt)
  have C2 := Lib.hid (C1.out.trans (b.mono C1.out.size))
  clear HP1 BX1 C1 b
  dsimp only
  cases hm : mayP (vecs L) N L.length R with
  | false =>
    have hT0 : T = [] := by unfold bookA at ew; rw [hm] at ew; have := congrArg List.length ew; rw [words_len] at this; exact List.length_eq_zero_iff.1 this
    have hp0 : partsA (vecs L) N L.length R = 0 := by unfold partsA; rw [hm]; rfl
    subst hT0
    rw [hp0, show errE false = 1 from rfl]
    clear o ap ew hp0
    go_wp2
    go_ret
    exact ⟨rfl, C2.out.trans (below_one (Below.refl _ _) _ |>.mono C2.out.size)⟩
  | true =>
    have hmp := of_decide_eq_true hm
    obtain ⟨m1, m2, m3, m4, m5, m6, m7, m8⟩ := hmp
    obtain ⟨n, rfl⟩ := Int.eq_ofNat_of_zero_le (show 0 ≤ N by omega)
    obtain ⟨r, rfl⟩ := Int.eq_ofNat_of_zero_le m7
    have hbo : bookA (vecs L) (n : Int) (L.length : Int) (r : Int) S = bookL (vecs L) n L.length r S := by unfold bookA; rw [hm]; simp
    have hpa : partsA (vecs L) (n : Int) (L.length : Int) (r : Int) = n := by unfold partsA; rw [hm]; rfl
    have hbk : BookOk (bookL (vecs L) n L.length r S) (dimOf (vecs L)) := book_ok m1 (by omega) (by omega) (by omega) (by omega) (by rw [vecs_len]; exact Nat.le_refl _)
    rw [hbo] at ew
    rw [hpa, show errE true = 0 from rfl]
    have hsz : sizeP (bookL (vecs L) n L.length r S) ≤ 20000 := by
      refine book_small hbk rfl (fun p hp => book_words hp (by rw [vecs_len]; exact Nat.le_refl _)) ?_
      have h1 := sizeL_all (vs := vecs L) (mayB_len m1)
      rw [vecs_len] at h1
      have := HSZ.out
      omega
    have hb8 : B88 (bookL (vecs L) n L.length r S) := book_b8 HP2.out.b8
    have HPB := Lib.hid (show PArg w2 A2 T from bans_arg o ew hsz hb8)
    have HEW := Lib.hid ew
    have HBK := Lib.hid hbk
    have HTL := Lib.hid (show T.length = n by have := congrArg List.length ew; rwa [words_len, bookL_len] at this)
    have HBACK := Lib.hid (fun v (hv : v ∈ vecs L) => (by
      have := book_back (r := r) (s := S) (n := n) m1 (by omega) (by omega) (by rw [vecs_len]; exact HLN.out.2) hv
      rwa [vecs_len] at this : decL (bookL (vecs L) n L.length r S) (encL (bookL (vecs L) n L.length r S) v) = v))
    have HM := Lib.hid m1
    clear o ap ew hm m1 m2 m3 m4 m5 m6 m7 m8 hbo hpa hbk hsz hb8 AL HTr e1 e2 e3 e4 hR
    obtain ⟨ps, eps⟩ : ∃ ps, bookL (vecs L) n L.length r S = ps := ⟨_, rfl⟩
    rw [eps] at HEW HBK HBACK
    clear eps
    go_wp2
    have b3 : Below w2.heap.size w2 (w2.alloc (.cells #[.int .i64 n, .slice A2 T.length c2b] 24)) := below_one (Below.refl _ _) _
    have HQ3 := Lib.hid (HPB.out.below b3)
    have HP3 := Lib.hid (HP2.out.below b3)
    have BX3 := Lib.hid (BX2.out.below b3 BX2.out.lt)
    have BY3 := Lib.hid (show Whole (w2.alloc (.cells #[.int .i64 n, .slice A2 T.length c2b] 24)) w2.heap.size 24 #[.int .i64 n, .slice A2 T.length c2b] from Whole.new w2 24 _)
    have C3 := Lib.hid (C2.out.trans (b3.mono C2.out.size))
    obtain ⟨w3, ew3⟩ : ∃ w3, w2.alloc (.cells #[.int .i64 n, .slice A2 T.length c2b] 24) = w3 := ⟨_, rfl⟩
    rw [ew3] at HQ3 HP3 BX3 BY3 C3 ⊢
    obtain ⟨h, eh⟩ : ∃ h, w2.heap.size = h := ⟨_, rfl⟩
    rw [eh] at BY3 ⊢
    clear ew3 eh b3 HPB HP2 BX2 C2
    have hNL : L.length ≤ 64 := HLN.out.2
    have mixed : Try.prog.follows .mixedOrders = true := by kernel_rfl
    have HDIM := Lib.hid (mayB_len HM.out)
    have HPN := Lib.hid (show ((ps.length : Nat) : Int) = (n : Int) by rw [← HEW.out, words_len, HTL.out])
    -- the calls, at any later world
    have CE := Lib.hid (fun W (hb : Below w3.heap.size w3 W) (a : Option Addr) (c1 : Nat) (v : List Int) (hv : v ∈ vecs L) (hrd : Rd .i8 W W.heap.size a v) (hcap : v.length ≤ c1) => (by
      have hl : v.length = dimOf (vecs L) := HDIM.out v hv
      have hbb : bookB n ps v.length = true := bookB_mk HPN.out (by rw [hl]; exact HBK.out)
      have q := HE.out n A2 c2b T a c1 v W (HQ3.out.below hb) ⟨hrd, by have := HBK.out.2.1; omega, HP3.out.b8 v hv⟩ hcap
      rw [HEW.out, hbb] at q
      have hea : encA n ps v = encL ps v := by unfold encA; rw [hbb]; rfl
      rw [hea] at q
      exact q : Calls Try.prog 32 #[.agg #[.int .i64 n, .slice A2 T.length c2b], .slice a v.length c1] W (NAns W .u8 5 (encL ps v) 0)))
    have CD := Lib.hid (fun W (hb : Below w3.heap.size w3 W) (a : Option Addr) (c1 : Nat) (v : List Int) (hv : v ∈ vecs L) (hrd : Rd .u8 W W.heap.size a (encL ps v)) => (by
      have hl : v.length = dimOf (vecs L) := HDIM.out v hv
      have hbv : BookOk ps v.length := by rw [hl]; exact HBK.out
      have hdb : decB n ps (encL ps v) = true := by
        unfold decB
        rw [hbv.dims, bookB_mk HPN.out hbv]
        exact decide_eq_true (enc_ok hbv)
      have q := HD.out n A2 c2b T a c1 (encL ps v) W (HQ3.out.below hb) ⟨hrd, by rw [encL_len]; have := hbv.2.2.2.1; have := hbv.2.1; omega, enc_u8 hbv⟩
      rw [HEW.out, hdb] at q
      have hda : decA n ps (encL ps v) = v := by unfold decA; rw [hdb, if_pos rfl]; exact HBACK.out v hv
      rw [hda] at q
      exact q : Calls Try.prog 15 #[.agg #[.int .i64 n, .slice A2 T.length c2b], .slice a (encL ps v).length c1] W (NAns W .i8 79 v 0)))
    have CC := Lib.hid (fun W (hb : Below w3.heap.size w3 W) (k : Nat) (hk : k = dimOf (vecs L)) => (by
      have q := HC.out n A2 c2b T k W (HQ3.out.below hb)
      rw [HEW.out, hk, bookB_mk HPN.out HBK.out, ← hk] at q
      exact q : Calls Try.prog 30 #[.agg #[.int .i64 n, .slice A2 T.length c2b], .int .i64 (k : Int)] W fun e w' => e = .returned (.bool true) ∧ Below W.heap.size W w'))
    clear HC HE HD HBACK HQ3 HEW
    go_loopw [7] (fun i wr => ∃ k : Nat, k ≤ L.length ∧ i = .int .i64 k ∧ Hid (Below w3.heap.size w3 wr)) (fun i _ => L.length - (intOf i).toNat)
    case atStart => exact ⟨0, by omega, rfl, Below.refl _ _⟩
    case round =>
      obtain ⟨k, hk, rfl, HB⟩ := hrel
      by_cases hlt : k < L.length
      · have eL : decide ((k : Int) < (L.length : Int)) = true := decide_eq_true (by omega)
        obtain ⟨bL, oL, aL, cL, v, rfl, hbL, hcL, hrL, hvL⟩ := (HP3.out.below HB.out).rd.at_ hlt
        have hvm : v ∈ vecs L := List.mem_of_getElem? (vecs_at hvL.out)
        have hcap := (HR.out _ (List.mem_of_getElem? hvL.out)).1
        have hv64 : v.length ≤ 64 := by rw [HDIM.out v hvm]; exact HBK.out.2.1
        have hbd : Below w3.heap.size w3 wr.drew := HB.out.drew
        have E1 := Lib.hid (CE.out wr.drew hbd aL cL v hvm ((hrL.below (Below.refl _ _).drew)) hcap)
        have HVM := Lib.hid hvm
        have HRL := Lib.hid hrL
        have k0 : wr.drew.cell? ⟨h, 0, none⟩ = some (.int .i64 n) := (BY3.out.below HB.out BY3.out.lt).cell 0
        have k1 : wr.drew.cell? ⟨h, 1, none⟩ = some (.slice A2 T.length c2b) := (BY3.out.below HB.out BY3.out.lt).cell 1
        have hcd : wr.drew.cell? ⟨bL, oL + k, none⟩ = some (.slice aL v.length cL) := hcL
        have x1 : (0 : Int) ≤ (k : Int) := by omega
        have x2 : (k : Int) < (L.length : Int) := by omega
        clear hvL hvm hrL
        go_wp2
        go_region_with (go_at_call 32; refine E1.out.mono ?_; rintro e w4 ⟨A4, c4, rfl, o4, b4⟩)
        all_goals
          have oc := own_cap o4
          have hb4 : Below w3.heap.size w3 w4 := hbd.trans (b4.mono hbd.size)
          have D1 := Lib.hid (CD.out w4 hb4 A4 c4 v HVM.out oc.2.2)
          have k04 : w4.cell? ⟨h, 0, none⟩ = some (.int .i64 n) := (BY3.out.below hb4 BY3.out.lt).cell 0
          have k14 : w4.cell? ⟨h, 1, none⟩ = some (.slice A2 T.length c2b) := (BY3.out.below hb4 BY3.out.lt).cell 1
          have HB4 := Lib.hid hb4
          have B4 := Lib.hid b4
          clear oc o4 b4 hb4
          go_wp2_with fail
          refine D1.out.mono ?_
          rintro e w5 ⟨A5, c5, rfl, o5, b5⟩
          have oc := own_cap o5
          have hb45 : Below wr.heap.size wr w5 := ((Below.refl _ wr).drew.trans (B4.out.mono (Nat.le_refl _))).trans (b5.mono (by have := B4.out.size; exact this))
          have hc5 : w5.cell? ⟨bL, oL + k, none⟩ = some (.slice aL v.length cL) := (hb45.cell (p := ⟨bL, oL + k, none⟩) hbL).trans hcL
          have S5 := Lib.hid (same8_any A5 aL c5 cL v v w5 _ oc.2.2 ((HRL.out.below hb45).more hb45.size) (by omega) (by omega))
          have HB5 := Lib.hid (HB4.out.trans (b5.mono HB4.out.size))
          have e9 : eqB v v = true := decide_eq_true rfl
          clear oc o5 b5 hb45
          dsimp only
          go_wp2_with (go_at_call 17; refine S5.out.mono ?_; rintro e w6 ⟨rfl, nq, rfl⟩
                       have HB6 := Lib.hid (below_drewN HB5.out nq))
          first
            | exact ⟨⟨k + 1, by omega, by go_num, HB6⟩, by simp [intOf]; omega⟩
            | (go_roundw
               case rel => exact ⟨k + 1, by omega, by go_num, HB6⟩
               case measure => simp [intOf]; omega)
      · obtain rfl : k = L.length := by omega
        have eL : decide ((L.length : Int) < (L.length : Int)) = false := decide_eq_false (by omega)
        obtain ⟨bL, oL, aL, cL, v, rfl, hbL, hcL, hrL, hvL⟩ := (HP3.out.below HB.out).rd.at_ (i := 0) (by have := HLN.out.1; omega)
        rw [Nat.add_zero] at hcL
        have hvm : v ∈ vecs L := List.mem_of_getElem? (vecs_at hvL.out)
        have hbd : Below w3.heap.size w3 wr.drew := HB.out.drew
        have K1 := Lib.hid (CC.out wr.drew hbd v.length (HDIM.out v hvm))
        have k0 : wr.drew.cell? ⟨h, 0, none⟩ = some (.int .i64 n) := (BY3.out.below HB.out BY3.out.lt).cell 0
        have k1 : wr.drew.cell? ⟨h, 1, none⟩ = some (.slice A2 T.length c2b) := (BY3.out.below HB.out BY3.out.lt).cell 1
        have hcd : wr.drew.cell? ⟨bL, oL, none⟩ = some (.slice aL v.length cL) := hcL
        have j0 : wr.drew.cell? ⟨g, 0, none⟩ = some (.int .i64 n) := (BX3.out.below HB.out BX3.out.lt).cell 0
        have x2 : (0 : Int) < (L.length : Int) := by have := HLN.out.1; omega
        have en : ((n : Int) == (n : Int)) = true := by simp
        clear hvL hvm hrL hcL hbL
        go_wp2
        go_region_with (go_at_call 30; refine K1.out.mono ?_; rintro e w4 ⟨rfl, b4⟩
                        have k04 : w4.cell? ⟨h, 0, none⟩ = some (.int .i64 n) := (BY3.out.below (hbd.trans (b4.mono hbd.size)) BY3.out.lt).cell 0
                        have j04 : w4.cell? ⟨g, 0, none⟩ = some (.int .i64 n) := (BX3.out.below (hbd.trans (b4.mono hbd.size)) BX3.out.lt).cell 0
                        have B4 := Lib.hid (hbd.trans (b4.mono hbd.size))
                        clear b4)
        all_goals
          go_wp2
          go_ret
          exact ⟨rfl, C3.out.trans (B4.out.mono C3.out.size)⟩
    
end Go.Proofs.Ythbimjkcpmffcaa
