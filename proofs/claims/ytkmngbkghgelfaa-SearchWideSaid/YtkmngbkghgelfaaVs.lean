/- The walks of the library's merge by halves (symMerge): one element on either side. -/
import Derived.Test.YtkmngbkghgelfaaVr
namespace Go.Proofs.Ytkmngbkghgelfaa
open Go.Shelf Go.RowKit Go.Lib Go.Sort
set_option linter.unusedVariables false
variable {P : Program} {α : Type} [Inhabited α]
/-- What a merge of the runs [a, m) and [m, b) comes to. -/
def Merged (enc : α → List Value) (k : Nat) (w0 : World) (blk off : Nat) (lt : α → α → Bool) (d : Array α) (a b : Nat) (e : Ending) (w' : World) : Prop :=
  e = .returned (.tuple #[]) ∧ ∃ d', PermIn a b d d' ∧ SortedIn lt a b d' ∧ SWK enc k w0 blk off d' w'

set_option maxHeartbeats 8000000 in
set_option maxRecDepth 1000000 in
theorem symMerge_a {k : Nat} (L : HitLays P k) (enc : α → List Value) (cf : α → α → Int) (hS : SWO (ltOf cf)) (g : Nat) (cb : Array Value) (eg : ∀ args w, (callFunc g args).run P w = .ok (.enter g args) w) (blk off cap a m b : Nat) (d0 d : Array α) (w0 w : World)
    (hcmp : CmpLays P g cb enc k cf blk off d0.size w0) (R : RowK enc k w0 blk off d0) (hs : d.size = d0.size) (S : SWK enc k w0 blk off d w) (hm : m = a + 1) (hmb : m < b) (hB : SortedIn (ltOf cf) m b d) (hb : b ≤ d.size) (hsz : d.size < 4611686018427387904) :
    Calls P 63 #[.slice (some ⟨blk, off, none⟩) d.size cap, .int .i64 a, .int .i64 m, .int .i64 b, .func (.func g) #[] cb] w (Merged enc k w0 blk off (ltOf cf) d a b) := by
  have mixed := L.mixed; have t0 := L.t0; have a0 := L.a0; have z0 := L.z0; have v0 := L.v0; have t3 := L.t3; have a3 := L.a3; have z3 := L.z3; have v3 := L.v3; have t4 := L.t4; have a4 := L.a4; have z4 := L.z4; have v4 := L.v4; have t29 := L.t29; have a29 := L.a29; have z29 := L.z29; have v29 := L.v29; have t72 := L.t72; have a72 := L.a72; have z72 := L.z72; have v72 := L.v72; have t148 := L.t148; have a148 := L.a148; have z148 := L.z148; have v148 := L.v148; have u29 := run_underlying L.t29; have aE := L.aE; have zE := L.zE
  have HC : Aside _ := hcmp
  have S0 : Aside (SWK enc k w0 blk off d w) := S
  have HD := Lib.hid hs
  clear S hcmp hs
  have HM := Lib.hid hm
  have HB := Lib.hid hB
  have t1 : ((m : Int) - (a : Int) == 1) = true := by simp; omega
  have ham : a + 1 ≤ m := by omega
  have hma : m ≤ a + 1 := by omega
  clear hm hB
  go_enter L.f107, Try.ntmps63
  go_wp2
  go_loopg [10, 11] (b - m) (fun gx s10 s11 wr => ∃ i j : Nat, s10 = .int .i64 i ∧ s11 = .int .i64 j ∧ m ≤ i ∧ i ≤ j ∧ j ≤ b ∧ j - i ≤ gx ∧ Aside (SWK enc k w0 blk off d wr) ∧ Hid ((i = m ∨ ltOf cf d[i - 1]! d[a]! = true) ∧ (j = b ∨ ltOf cf d[j]! d[a]! = false)))
  case atStart => exact ⟨m, b, rfl, rfl, by omega, by omega, by omega, by omega, S0, (⟨.inl rfl, .inl rfl⟩ : (m = m ∨ ltOf cf d[m - 1]! d[a]! = true) ∧ (b = b ∨ ltOf cf d[b]! d[a]! = false))⟩
  case round =>
    clear S0
    obtain ⟨i, j, rfl, rfl, hmi, hij, hjb, hgx, S1, HI⟩ := hrel
    by_cases hlt : i < j
    · have hltz : (i : Int) < (j : Int) := by omega
      cases hL : ltOf cf d[(i + j) / 2]! d[a]! with
      | true =>
        have HN : Hid (((i + j) / 2 + 1 = m ∨ ltOf cf d[(i + j) / 2 + 1 - 1]! d[a]! = true) ∧ (j = b ∨ ltOf cf d[j]! d[a]! = false)) := ⟨.inr (by rw [Nat.add_sub_cancel]; exact hL), HI.out.2⟩
        have ex : (((i : Int) + (j : Int)) / 2).toNat = (i + j) / 2 := by omega
        have px : (0 : Int) ≤ ((i : Int) + (j : Int)) / 2 := by omega
        have bx : ((i : Int) + (j : Int)) / 2 < (d.size : Int) := by omega
        have rx : IntKind.i64.wrap (((i : Int) + (j : Int)) / 2) = ((i : Int) + (j : Int)) / 2 := by rw [IntKind.wrap_i64]; omega
        have ev : ((a : Int)).toNat = a := by omega
        have pv : (0 : Int) ≤ (a : Int) := by omega
        have bv : (a : Int) < (d.size : Int) := by omega
        have rv : IntKind.i64.wrap ((a : Int)) = (a : Int) := by rw [IntKind.wrap_i64]; omega
        obtain ⟨x, hx⟩ : ∃ x, x = d[(i + j) / 2]! := ⟨_, rfl⟩
        obtain ⟨y, hy⟩ : ∃ y, y = d[a]! := ⟨_, rfl⟩
        have lx := S1.out.ld R (HD.out) P ((i + j) / 2) (by omega)
        have ly := S1.out.ld R (HD.out) P (a) (by omega)
        rw [← hx] at lx
        rw [← hy] at ly
        have hc := S1.out.cmp HC.out (HD.out) x y
        have hv : cf x y < 0 := by rw [hx, hy]; exact of_decide_eq_true hL
        have hd : decide (cf x y < 0) = true := decide_eq_true hv
        clear hx hy
        go_wp2_with fail
        go_quiet_grown (first | (go_at_fn g; refine Calls.grown_of (hc _ _)))
        have S2 : Aside (SWK enc k w0 blk off d (grow (wr.drewN nq) osq)) := S1.out.grown nq osq
        clear lx ly hc S1
        generalize grow (wr.drewN nq) osq = w2 at S2 ⊢
        clear nq osq ex px bx rx ev pv bv rv hv hd
        go_wp2
        go_roundg (j - ((i + j) / 2 + 1))
        case measure => omega
        case rel => exact ⟨(i + j) / 2 + 1, j, by rw [show ((i : Int) + (j : Int)) / 2 + 1 = (((i + j) / 2 + 1 : Nat) : Int) by omega], rfl, by omega, by omega, by omega, by omega, S2, HN⟩
      | false =>
        have HN : Hid ((i = m ∨ ltOf cf d[i - 1]! d[a]! = true) ∧ ((i + j) / 2 = b ∨ ltOf cf d[(i + j) / 2]! d[a]! = false)) := ⟨HI.out.1, .inr hL⟩
        have ex : (((i : Int) + (j : Int)) / 2).toNat = (i + j) / 2 := by omega
        have px : (0 : Int) ≤ ((i : Int) + (j : Int)) / 2 := by omega
        have bx : ((i : Int) + (j : Int)) / 2 < (d.size : Int) := by omega
        have rx : IntKind.i64.wrap (((i : Int) + (j : Int)) / 2) = ((i : Int) + (j : Int)) / 2 := by rw [IntKind.wrap_i64]; omega
        have ev : ((a : Int)).toNat = a := by omega
        have pv : (0 : Int) ≤ (a : Int) := by omega
        have bv : (a : Int) < (d.size : Int) := by omega
        have rv : IntKind.i64.wrap ((a : Int)) = (a : Int) := by rw [IntKind.wrap_i64]; omega
        obtain ⟨x, hx⟩ : ∃ x, x = d[(i + j) / 2]! := ⟨_, rfl⟩
        obtain ⟨y, hy⟩ : ∃ y, y = d[a]! := ⟨_, rfl⟩
        have lx := S1.out.ld R (HD.out) P ((i + j) / 2) (by omega)
        have ly := S1.out.ld R (HD.out) P (a) (by omega)
        rw [← hx] at lx
        rw [← hy] at ly
        have hc := S1.out.cmp HC.out (HD.out) x y
        have hv : ¬ cf x y < 0 := by rw [hx, hy]; exact of_decide_eq_false hL
        have hd : decide (cf x y < 0) = false := decide_eq_false hv
        clear hx hy
        go_wp2_with fail
        go_quiet_grown (first | (go_at_fn g; refine Calls.grown_of (hc _ _)))
        have S2 : Aside (SWK enc k w0 blk off d (grow (wr.drewN nq) osq)) := S1.out.grown nq osq
        clear lx ly hc S1
        generalize grow (wr.drewN nq) osq = w2 at S2 ⊢
        clear nq osq ex px bx rx ev pv bv rv hv hd
        go_wp2
        go_roundg ((i + j) / 2 - i)
        case measure => omega
        case rel => exact ⟨i, (i + j) / 2, rfl, by rw [show ((i : Int) + (j : Int)) / 2 = (((i + j) / 2 : Nat) : Int) by omega], by omega, by omega, by omega, by omega, S2, HN⟩
    · have hltz : ¬ (i : Int) < (j : Int) := by omega
      obtain rfl : i = j := by omega
      have HF := Lib.hid (fun (r : Array α) (hr : RotR d r a (a + 1) i) => ins_right hS (a := a) (b := b) (i := i) (by omega) hjb (by have := HB.out; rw [HM.out] at this; exact this) (by have := HI.out.1; rw [HM.out] at this; exact this) HI.out.2 hr)
      clear HI
      go_wp2
      go_loopg [13] (i - a) (fun gx s13 wr => ∃ (q : Nat) (dk : Array α), s13 = .int .i64 q ∧ a ≤ q ∧ q + 1 ≤ i ∧ i - q ≤ gx ∧ Aside (SWK enc k w0 blk off dk wr) ∧ Hid (RotR d dk a (a + 1) (q + 1) ∧ PermIn a b d dk ∧ dk.size = d0.size))
      case atStart => exact ⟨a, d, rfl, by omega, by omega, by omega, S1, (⟨RotR.self d a (a + 1) (by omega), permIn_refl _ _ _, HD.out⟩ : RotR d d a (a + 1) (a + 1) ∧ PermIn a b d d ∧ d.size = d0.size)⟩
      case round =>
        clear S1
        obtain ⟨q, dk, rfl, haq, hqi, hgq, S3, HQ⟩ := hrel
        have hdk := HQ.out.2.2
        have hdd := HD.out
        by_cases hq : q + 1 < i
        · have hqz : (q : Int) < (i : Int) - 1 := by omega
          have HN : Hid (RotR d (swp dk q (q + 1)) a (a + 1) (q + 1 + 1) ∧ PermIn a b d (swp dk q (q + 1)) ∧ (swp dk q (q + 1)).size = d0.size) := ⟨HQ.out.1.right haq (by omega), permIn_trans _ _ _ _ _ HQ.out.2.1 (swp_permIn dk a b _ _ (by omega) (by omega) (by omega) (by omega) (by omega)), by rw [size_swp]; exact hdk⟩
          have ex : ((q : Int)).toNat = q := by omega
          have px : (0 : Int) ≤ (q : Int) := by omega
          have bx : (q : Int) < (d.size : Int) := by omega
          have rx : IntKind.i64.wrap ((q : Int)) = (q : Int) := by rw [IntKind.wrap_i64]; omega
          have ez : ((q : Int) + 1).toNat = q + 1 := by omega
          have pz : (0 : Int) ≤ (q : Int) + 1 := by omega
          have bz : (q : Int) + 1 < (d.size : Int) := by omega
          have rz : IntKind.i64.wrap ((q : Int) + 1) = (q : Int) + 1 := by rw [IntKind.wrap_i64]; omega
          have S4 : Aside (SWK enc k w0 blk off (swp dk (q) (q + 1)) ((wr.drew.setCells blk (off + (q) * k) (enc dk[q + 1]!)).setCells blk (off + (q + 1) * k) (enc dk[q]!))) := S3.out.swapped R (q) (q + 1) (by omega) (by omega)
          have la := S3.out.ld1 R (hdk) P (q) (by omega)
          have lb := S3.out.ld1 R (hdk) P (q + 1) (by omega)
          have sa := S3.out.st1 R (hdk) P (q) (by omega) dk[q + 1]!
          have sb := S3.out.st2 R (hdk) P (q) (q + 1) (by omega) (by omega) dk[q + 1]! dk[q]!
          have na : (enc dk[q]!).length = k := R.hk _
          have nb : (enc dk[q + 1]!).length = k := R.hk _
          generalize enc dk[q]! = cI at S4 la sb na
          generalize enc dk[q + 1]! = cJ at S4 lb sa sb nb
          clear S3
          go_wp2_with fail
          go_big_region_o
          clear la lb sa sb
          generalize (wr.drew.setCells blk (off + (q) * k) cJ).setCells blk (off + (q + 1) * k) cI = w4 at S4 ⊢
          clear hdk hdd
          go_wp2
          go_roundg (i - (q + 1))
          case measure => omega
          case rel => exact ⟨q + 1, _, by simp, by omega, by omega, by omega, S4, HN⟩
        · have hqz : ¬ (q : Int) < (i : Int) - 1 := by omega
          clear hdk hdd
          go_wp2
          go_end0
          obtain rfl : i = q + 1 := by omega
          exact ⟨rfl, dk, HQ.out.2.1, HF.out dk HQ.out.1, S3.out⟩

set_option maxHeartbeats 8000000 in
set_option maxRecDepth 1000000 in
theorem symMerge_b {k : Nat} (L : HitLays P k) (enc : α → List Value) (cf : α → α → Int) (hS : SWO (ltOf cf)) (g : Nat) (cb : Array Value) (eg : ∀ args w, (callFunc g args).run P w = .ok (.enter g args) w) (blk off cap a m b : Nat) (d0 d : Array α) (w0 w : World)
    (hcmp : CmpLays P g cb enc k cf blk off d0.size w0) (R : RowK enc k w0 blk off d0) (hs : d.size = d0.size) (S : SWK enc k w0 blk off d w) (hm : m - a ≠ 1) (ham : a < m) (hmb : b = m + 1) (hA : SortedIn (ltOf cf) a m d) (hb : b ≤ d.size) (hsz : d.size < 4611686018427387904) :
    Calls P 63 #[.slice (some ⟨blk, off, none⟩) d.size cap, .int .i64 a, .int .i64 m, .int .i64 b, .func (.func g) #[] cb] w (Merged enc k w0 blk off (ltOf cf) d a b) := by
  have mixed := L.mixed; have t0 := L.t0; have a0 := L.a0; have z0 := L.z0; have v0 := L.v0; have t3 := L.t3; have a3 := L.a3; have z3 := L.z3; have v3 := L.v3; have t4 := L.t4; have a4 := L.a4; have z4 := L.z4; have v4 := L.v4; have t29 := L.t29; have a29 := L.a29; have z29 := L.z29; have v29 := L.v29; have t72 := L.t72; have a72 := L.a72; have z72 := L.z72; have v72 := L.v72; have t148 := L.t148; have a148 := L.a148; have z148 := L.z148; have v148 := L.v148; have u29 := run_underlying L.t29; have aE := L.aE; have zE := L.zE
  have HC : Aside _ := hcmp
  have S0 : Aside (SWK enc k w0 blk off d w) := S
  have HD := Lib.hid hs
  clear S hcmp hs
  have HM := Lib.hid hmb
  have HA := Lib.hid hA
  have t1 : ((m : Int) - (a : Int) == 1) = false := by simp; omega
  have t2 : ((b : Int) - (m : Int) == 1) = true := by simp; omega
  have hbm : b ≤ m + 1 := by omega
  have hmb' : m + 1 ≤ b := by omega
  clear hm hA hmb
  go_enter L.f107, Try.ntmps63
  go_wp2
  go_loopg [14, 15] (m - a) (fun gx s10 s11 wr => ∃ i j : Nat, s10 = .int .i64 i ∧ s11 = .int .i64 j ∧ a ≤ i ∧ i ≤ j ∧ j ≤ m ∧ j - i ≤ gx ∧ Aside (SWK enc k w0 blk off d wr) ∧ Hid ((i = a ∨ ltOf cf d[m]! d[i - 1]! = false) ∧ (j = m ∨ ltOf cf d[m]! d[j]! = true)))
  case atStart => exact ⟨a, m, rfl, rfl, by omega, by omega, by omega, by omega, S0, (⟨.inl rfl, .inl rfl⟩ : (a = a ∨ ltOf cf d[m]! d[a - 1]! = false) ∧ (m = m ∨ ltOf cf d[m]! d[m]! = true))⟩
  case round =>
    clear S0
    obtain ⟨i, j, rfl, rfl, hmi, hij, hjb, hgx, S1, HI⟩ := hrel
    by_cases hlt : i < j
    · have hltz : (i : Int) < (j : Int) := by omega
      cases hL : ltOf cf d[m]! d[(i + j) / 2]! with
      | false =>
        have HN : Hid (((i + j) / 2 + 1 = a ∨ ltOf cf d[m]! d[(i + j) / 2 + 1 - 1]! = false) ∧ (j = m ∨ ltOf cf d[m]! d[j]! = true)) := ⟨.inr (by rw [Nat.add_sub_cancel]; exact hL), HI.out.2⟩
        have ex : ((m : Int)).toNat = m := by omega
        have px : (0 : Int) ≤ (m : Int) := by omega
        have bx : (m : Int) < (d.size : Int) := by omega
        have rx : IntKind.i64.wrap ((m : Int)) = (m : Int) := by rw [IntKind.wrap_i64]; omega
        have ev : (((i : Int) + (j : Int)) / 2).toNat = (i + j) / 2 := by omega
        have pv : (0 : Int) ≤ ((i : Int) + (j : Int)) / 2 := by omega
        have bv : ((i : Int) + (j : Int)) / 2 < (d.size : Int) := by omega
        have rv : IntKind.i64.wrap (((i : Int) + (j : Int)) / 2) = ((i : Int) + (j : Int)) / 2 := by rw [IntKind.wrap_i64]; omega
        obtain ⟨x, hx⟩ : ∃ x, x = d[m]! := ⟨_, rfl⟩
        obtain ⟨y, hy⟩ : ∃ y, y = d[(i + j) / 2]! := ⟨_, rfl⟩
        have lx := S1.out.ld R (HD.out) P (m) (by omega)
        have ly := S1.out.ld R (HD.out) P ((i + j) / 2) (by omega)
        rw [← hx] at lx
        rw [← hy] at ly
        have hc := S1.out.cmp HC.out (HD.out) x y
        have hv : ¬ cf x y < 0 := by rw [hx, hy]; exact of_decide_eq_false hL
        have hd : decide (cf x y < 0) = false := decide_eq_false hv
        clear hx hy
        go_wp2_with fail
        go_quiet_grown (first | (go_at_fn g; refine Calls.grown_of (hc _ _)))
        have S2 : Aside (SWK enc k w0 blk off d (grow (wr.drewN nq) osq)) := S1.out.grown nq osq
        clear lx ly hc S1
        generalize grow (wr.drewN nq) osq = w2 at S2 ⊢
        clear nq osq ex px bx rx ev pv bv rv hv hd
        go_wp2
        go_roundg (j - ((i + j) / 2 + 1))
        case measure => omega
        case rel => exact ⟨(i + j) / 2 + 1, j, by rw [show ((i : Int) + (j : Int)) / 2 + 1 = (((i + j) / 2 + 1 : Nat) : Int) by omega], rfl, by omega, by omega, by omega, by omega, S2, HN⟩
      | true =>
        have HN : Hid ((i = a ∨ ltOf cf d[m]! d[i - 1]! = false) ∧ ((i + j) / 2 = m ∨ ltOf cf d[m]! d[(i + j) / 2]! = true)) := ⟨HI.out.1, .inr hL⟩
        have ex : ((m : Int)).toNat = m := by omega
        have px : (0 : Int) ≤ (m : Int) := by omega
        have bx : (m : Int) < (d.size : Int) := by omega
        have rx : IntKind.i64.wrap ((m : Int)) = (m : Int) := by rw [IntKind.wrap_i64]; omega
        have ev : (((i : Int) + (j : Int)) / 2).toNat = (i + j) / 2 := by omega
        have pv : (0 : Int) ≤ ((i : Int) + (j : Int)) / 2 := by omega
        have bv : ((i : Int) + (j : Int)) / 2 < (d.size : Int) := by omega
        have rv : IntKind.i64.wrap (((i : Int) + (j : Int)) / 2) = ((i : Int) + (j : Int)) / 2 := by rw [IntKind.wrap_i64]; omega
        obtain ⟨x, hx⟩ : ∃ x, x = d[m]! := ⟨_, rfl⟩
        obtain ⟨y, hy⟩ : ∃ y, y = d[(i + j) / 2]! := ⟨_, rfl⟩
        have lx := S1.out.ld R (HD.out) P (m) (by omega)
        have ly := S1.out.ld R (HD.out) P ((i + j) / 2) (by omega)
        rw [← hx] at lx
        rw [← hy] at ly
        have hc := S1.out.cmp HC.out (HD.out) x y
        have hv : cf x y < 0 := by rw [hx, hy]; exact of_decide_eq_true hL
        have hd : decide (cf x y < 0) = true := decide_eq_true hv
        clear hx hy
        go_wp2_with fail
        go_quiet_grown (first | (go_at_fn g; refine Calls.grown_of (hc _ _)))
        have S2 : Aside (SWK enc k w0 blk off d (grow (wr.drewN nq) osq)) := S1.out.grown nq osq
        clear lx ly hc S1
        generalize grow (wr.drewN nq) osq = w2 at S2 ⊢
        clear nq osq ex px bx rx ev pv bv rv hv hd
        go_wp2
        go_roundg ((i + j) / 2 - i)
        case measure => omega
        case rel => exact ⟨i, (i + j) / 2, rfl, by rw [show ((i : Int) + (j : Int)) / 2 = (((i + j) / 2 : Nat) : Int) by omega], by omega, by omega, by omega, by omega, S2, HN⟩
    · have hltz : ¬ (i : Int) < (j : Int) := by omega
      obtain rfl : i = j := by omega
      have HF := Lib.hid (fun (r : Array α) (hr : RotR d r i m (m + 1)) => ins_left hS (a := a) (i := i) hmi hjb HA.out HI.out.1 HI.out.2 hr)
      clear HI
      go_wp2
      go_loopg [17] (m - i) (fun gx s13 wr => ∃ (q : Nat) (dk : Array α), s13 = .int .i64 q ∧ i ≤ q ∧ q ≤ m ∧ q - i ≤ gx ∧ Aside (SWK enc k w0 blk off dk wr) ∧ Hid (RotR d dk q m (m + 1) ∧ PermIn a b d dk ∧ dk.size = d0.size))
      case atStart => exact ⟨m, d, rfl, by omega, by omega, by omega, S1, (⟨RotR.self' d m (m + 1) (by omega), permIn_refl _ _ _, HD.out⟩ : RotR d d m m (m + 1) ∧ PermIn a b d d ∧ d.size = d0.size)⟩
      case round =>
        clear S1
        obtain ⟨q0, dk, rfl, haq, hqi, hgq, S3, HQ⟩ := hrel
        have hdk := HQ.out.2.2
        have hdd := HD.out
        by_cases hq : i < q0
        · obtain ⟨q, rfl⟩ : ∃ q, q0 = q + 1 := ⟨q0 - 1, by omega⟩
          have hqz : (i : Int) < (q : Int) + 1 := by omega
          have HN : Hid (RotR d (swp dk (q + 1) q) q m (m + 1) ∧ PermIn a b d (swp dk (q + 1) q) ∧ (swp dk (q + 1) q).size = d0.size) := ⟨HQ.out.1.left (by omega) (by omega), permIn_trans _ _ _ _ _ HQ.out.2.1 (swp_permIn dk a b _ _ (by omega) (by omega) (by omega) (by omega) (by omega)), by rw [size_swp]; exact hdk⟩
          have ex : ((q : Int) + 1).toNat = q + 1 := by omega
          have px : (0 : Int) ≤ (q : Int) + 1 := by omega
          have bx : (q : Int) + 1 < (d.size : Int) := by omega
          have rx : IntKind.i64.wrap ((q : Int) + 1) = (q : Int) + 1 := by rw [IntKind.wrap_i64]; omega
          have ez : ((q : Int)).toNat = q := by omega
          have pz : (0 : Int) ≤ (q : Int) := by omega
          have bz : (q : Int) < (d.size : Int) := by omega
          have rz : IntKind.i64.wrap ((q : Int)) = (q : Int) := by rw [IntKind.wrap_i64]; omega
          have S4 : Aside (SWK enc k w0 blk off (swp dk (q + 1) (q)) ((wr.drew.setCells blk (off + (q + 1) * k) (enc dk[q]!)).setCells blk (off + (q) * k) (enc dk[q + 1]!))) := S3.out.swapped R (q + 1) (q) (by omega) (by omega)
          have la := S3.out.ld1 R (hdk) P (q + 1) (by omega)
          have lb := S3.out.ld1 R (hdk) P (q) (by omega)
          have sa := S3.out.st1 R (hdk) P (q + 1) (by omega) dk[q]!
          have sb := S3.out.st2 R (hdk) P (q + 1) (q) (by omega) (by omega) dk[q]! dk[q + 1]!
          have na : (enc dk[q + 1]!).length = k := R.hk _
          have nb : (enc dk[q]!).length = k := R.hk _
          generalize enc dk[q + 1]! = cI at S4 la sb na
          generalize enc dk[q]! = cJ at S4 lb sa sb nb
          clear S3
          go_wp2_with fail
          go_big_region_o
          clear la lb sa sb
          generalize (wr.drew.setCells blk (off + (q + 1) * k) cJ).setCells blk (off + (q) * k) cI = w4 at S4 ⊢
          clear hdk hdd
          go_wp2
          go_roundg (q - i)
          case measure => omega
          case rel => exact ⟨q, _, by first | rfl | simp | go_num, by omega, by omega, by omega, S4, HN⟩
        · have hqz : ¬ (i : Int) < (q0 : Int) := by omega
          clear hdk hdd
          go_wp2
          go_end0
          obtain rfl : i = q0 := by omega
          exact ⟨rfl, dk, HQ.out.2.1, by have := HF.out dk HQ.out.1; rw [HM.out]; exact this, S3.out⟩
end Go.Proofs.Ytkmngbkghgelfaa
