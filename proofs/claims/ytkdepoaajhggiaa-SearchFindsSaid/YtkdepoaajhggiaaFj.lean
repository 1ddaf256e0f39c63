/- The iterator of a search: the places that wait. -/
import Derived.RangeFuncBox
import Derived.RangeFuncNested
import Derived.RangeFuncBound
import Derived.RangeFuncCalls
import Derived.RangeFuncLeaves
import Derived.Shelf.RegionOpen
import Derived.OwnWalkIn
import Derived.TacticsInMore
import Derived.LoopNIn
import Derived.LoopIn
import Derived.Deep.QuietTactic
import Derived.BigQuiet
import Derived.Test.YtkdepoaajhggiaaFg
import Derived.Test.YtkdepoaajhggiaaFi
namespace Go.Proofs.Ytkdepoaajhggiaa
open Go.Shelf Go.RowKit Go.Lib
open Go.Sort hiding Below
set_option linter.unusedVariables false
set_option linter.unusedSimpArgs false
attribute [local go_sem] Oper.semAt_some
def encP (p : Nat) : Array Value := #[.int .i64 (p : Int)]
/-- The search behind the places that were told. -/
def stP (E : Se) (t0 : Sr) (pre : List Nat) : Sr := pre.foldl (lookP E.G E.v E.m) t0
theorem stP_snoc (E : Se) (t0 : Sr) (pre : List Nat) (p : Nat) : stP E t0 (pre ++ [p]) = lookP E.G E.v E.m (stP E t0 pre) p := by unfold stP; rw [List.foldl_append]; rfl
/-- What holds at each round. -/
def KS (E : Se) (L : List Gn) (s : Int) (b : Nat) (t0 : Sr) (Z : List Nat) (pre : List Nat) (W : World) : Prop :=
  ∃ F, SrAt E W b F (stP E t0 pre) ∧ (∀ z ∈ Z, z ∉ F ∧ z < W.heap.size) ∧ (stP E t0 pre).ps = t0.ps ∧ OkS E.G E.v E.m (stP E t0 pre) ∧ SEnv E L s W
theorem hl_at {E : Se} {ps : List Nat} {i : Nat} {x : Int × Int} (h : (hlP E.G E.v ps)[i]? = some x) : ∃ p, ps[i]? = some p ∧ x = hitP E.G E.v p := by
  unfold hlP at h
  rw [List.getElem?_map] at h
  cases hp : ps[i]? with
  | none => rw [hp] at h; cases h
  | some p => rw [hp] at h; exact ⟨p, rfl, by simpa using h.symm⟩
theorem ids_at {G : List Pn} {p : Nat} (h : p < G.length) : (idsG G)[p]? = some (nAt G p).1 := by
  unfold idsG nAt
  rw [List.getElem?_map, List.getElem?_eq_getElem h]; rfl
theorem keeps_whole {Z : List Nat} {W W' : World} {g : Nat} {t : TypeId} {cs : Array Value} (h : Whole W g t cs) (k : Keeps (fun k _ => k ∈ Z) W W') (hz : g ∈ Z) : Whole W' g t cs := k.same g _ _ _ hz h
set_option maxRecDepth 100000 in
set_option maxHeartbeats 4000000 in
theorem waiting_in (n l : Nat) (E : Se) (L : List Gn) (s : Int) (t0 : Sr) (b bs : Nat) (J : List Nat → List Nat → World → Prop) (Jx : List Nat → World → Prop) (hn : 1 ≤ n)
    (hJK : ∀ Z pre W1, J Z pre W1 → KS E L s b t0 Z pre W1)
    (hJb : ∀ Z Z2 pre W1 W2, J Z pre W1 → Below W1.heap.size W1 W2 → (∀ z ∈ Z2, z ∈ Z ∨ W1.heap.size ≤ z ∧ z < W2.heap.size) → J Z2 pre W2)
    (hY : ∀ Z pre x W1, J Z pre W1 → nextP (stP E t0 pre) = some x → YieldAt Fence.wide (n - 1) Try.prog l (encP x) W1 fun e W' =>
      (e = .returned (.bool true) ∧ J Z (pre ++ [x]) W' ∧ Keeps (fun k _ => k ∈ Z) W1 W') ∨ (e = .returned (.bool false) ∧ Jx (pre ++ [x]) W'))
    (W : World) (h0 : J [bs] [] W) (hB : Whole W bs 54 #[.pointer (some ⟨b, 0, none⟩)]) :
    CallsIn Fence.wide n Try.prog 52 #[.func (.yield l) #[] #[], .pointer (some ⟨bs, 0, none⟩)] W fun e W' => (∃ v, e = .returned v) ∧
      ((∃ xs : List Nat, nextP (stP E t0 xs) = none ∧ J [] xs W') ∨ (∃ pre : List Nat, Jx pre W')) := by
  have f33 : Fence.wide.fn 23 := trivial
  have f55 : Fence.wide.fn 46 := trivial
  have HJK := Lib.hid hJK
  have HJb := Lib.hid hJb
  have HY := Lib.hid hY
  have H0 := Lib.hid h0
  have HB := Lib.hid hB
  obtain ⟨F, ⟨g, hb, oA, oc, hS, rfl, rfl⟩, hZ, hps, hok, hE⟩ := hJK _ _ _ h0
  have hps0 : (stP E t0 []).ps = t0.ps := rfl
  have c0 : W.cell? ⟨bs, 0, none⟩ = some (.pointer (some ⟨g.b, 0, none⟩)) := hB.cell 0
  have c1 : W.cell? ⟨g.b, 0, none⟩ = some (.pointer (some ⟨hb, 0, none⟩)) := hS.blk.cell 0
  have HH := Lib.hid (hHits_any hb g.FH E.m (hlP E.G E.v t0.ps) W hS.heap)
  have hlen : (hlP E.G E.v t0.ps).length ≤ 256 := by rw [hlP_len]; have := hok.le; have := hE.m2; rw [hps0] at *; omega
  have HLL := Lib.hid (hlP_len E.G E.v t0.ps)
  clear hJK hJb hY h0 hB hZ hps hok hE hS hps0
  obtain ⟨b, eb⟩ : ∃ b, g.b = b := ⟨_, rfl⟩
  rw [eb] at HJK c0 c1 HB
  clear eb
  refine callsIn_of_wp Try.func52 rfl trivial ?_ rfl
  simp only [Try.ntmps52, List.size_toArray, List.length_cons, List.length_nil, Nat.reduceAdd, Nat.reduceSub, Array.replicate_succ, Array.replicate_zero, List.push_toArray, List.append_toArray, List.nil_append, List.cons_append]
  gi_wp2_with (gi_at_call 23; refine (callsIn_wide.2 HH.out).mono ?_; rintro e W2 ⟨gs, rfl, hW2, hg2, t2⟩)
  have b2 := turn_nil t2
  have HJ2 := Lib.hid (HJb.out [bs] [gs, bs] [] W W2 H0.out b2 (fun z hz => by
    rcases List.mem_cons.1 hz with rfl | hz
    · exact .inr ⟨hg2, hW2.lt⟩
    · exact .inl hz))
  have HB2 := Lib.hid (HB.out.below b2 HB.out.lt)
  have HW2 := Lib.hid hW2
  obtain ⟨N, eN⟩ : ∃ N, (hlP E.G E.v t0.ps).length = N := ⟨_, rfl⟩
  rw [eN] at hlen HLL ⊢
  have HN := Lib.hid eN
  clear hW2 hg2 t2 b2 c0 c1 HH eN
  gi_loopw [4, 5, 12] (fun _ _ i wr => ∃ (k : Nat) (pre : List Nat), k ≤ N ∧ i = .int .i64 k ∧ Hid (J [gs, bs] pre wr) ∧ Hid (Whole wr bs 54 #[.pointer (some ⟨b, 0, none⟩)]) ∧ Hid (Whole wr gs 42 (flatH (hlP E.G E.v t0.ps)).toArray) ∧ Hid (∀ j q, j < k → t0.ps[j]? = some q → q ∈ (stP E t0 pre).od)) (fun _ _ i _ => N - (intOf i).toNat)
  case atStart => exact ⟨0, [], by omega, rfl, HJ2, HB2, HW2, Lib.hid (fun j q h => absurd h (Nat.not_lt_zero _))⟩
  case round =>
    clear HJ2 HB2 HW2
    obtain ⟨k, pre, hk, rfl, HJ, HBx, HWx, HD⟩ := hrel
    by_cases hlt : k < N
    · have e1 : decide ((k : Int) < (N : Int)) = true := decide_eq_true (by omega)
      obtain ⟨b0, off0, x, y, hA0, _, kc1, kc2, hv⟩ := (rdH_whole HWx.out).at_ (i := k) (by have := HN.out; omega)
      simp only [Option.some.injEq, Addr.mk.injEq, and_true] at hA0
      obtain ⟨rfl, rfl⟩ := hA0
      rw [Nat.zero_add] at kc1 kc2
      have x1 : (0 : Int) ≤ (k : Int) := by omega
      have x2 : (k : Int) < (N : Int) := by omega
      obtain ⟨p, hp, hxy⟩ := hl_at hv.out
      have HPS := Lib.hid hp
      have B2 : Below wr.heap.size wr (wr.alloc (.cells #[.int .u64 x, .int .i64 y] 42)) := below_one (Below.refl _ _) _
      have J2 := HJb.out [gs, bs] [gs, bs] pre wr _ HJ.out B2 (fun z hz => .inl hz)
      have HB2 := Lib.hid (HBx.out.below B2 HBx.out.lt)
      have HW2 := Lib.hid (HWx.out.below B2 HWx.out.lt)
      have WX := Whole.new wr 42 #[.int .u64 x, .int .i64 y]
      gi_wp2
      obtain ⟨w2, ew2⟩ : ∃ w2, wr.alloc (.cells #[.int .u64 x, .int .i64 y] 42) = w2 := ⟨_, rfl⟩
      obtain ⟨xb, exb⟩ : ∃ xb, wr.heap.size = xb := ⟨_, rfl⟩
      rw [ew2] at B2 J2 HB2 HW2 WX ⊢
      rw [exb] at WX ⊢
      obtain ⟨F, ⟨g, hb, oA, oc, hS, hgb, rfl⟩, hZ, hps, hok, hE⟩ := HJK.out _ _ _ J2
      subst hgb
      have hpl : p < E.G.length := by
        have : p ∈ (stP E t0 pre).ps := by rw [hps]; exact List.mem_of_getElem? hp
        exact hok.lt p (hok.sub p this)
      have hx1 : x = (nAt E.G p).1 := by have := congrArg Prod.fst hxy; exact this
      have hlk : ∀ m, (Instr.lookup 60 (.map (some g.pm)) (.int .u64 x) false).run Try.prog (w2.drewN m) = .ok (.int .i64 (p : Int)) (w2.drewN m) := fun m => by
        have h1 := hS.pl.turn (A := []) ((Turn.refl _ _).drewN m) (by simp)
        exact h1.look hE.may.nd (by rw [hx1]; exact ids_at hpl) (by rw [hx1]; exact u64_wf (hE.ok _ (nAt_mem hpl)).1)
      have hlk1 : (Instr.lookup 60 (.map (some g.pm)) (.int .u64 x) false).run Try.prog w2.drew = .ok (.int .i64 (p : Int)) w2.drew := hlk 1
      have q0 : w2.cell? ⟨bs, 0, none⟩ = some (.pointer (some ⟨g.b, 0, none⟩)) := HB2.out.cell 0
      have q1 : w2.cell? ⟨g.b, 3, none⟩ = some (.map (some g.pm)) := hS.blk.cell 3
      have q2 : w2.cell? ⟨xb, 0, none⟩ = some (.int .u64 x) := WX.cell 0
      have HST := Lib.hid hS
      have HJ2 := Lib.hid J2
      have HPS2 := Lib.hid hps
      clear hS hZ hps hok hE B2 J2 WX kc1 kc2 hv hxy ew2 exb hx1 hp
      rw [wpIn_wide]
      go_quiet (fail)
      have t3 : Turn [] w2 (w2.drewN nq) := (Turn.refl _ _).drewN nq
      have b3 : Below w2.heap.size w2 (w2.drewN nq) := below_drewN (Below.refl _ _) nq
      obtain ⟨w3, ew3⟩ : ∃ w3, w2.drewN nq = w3 := ⟨_, rfl⟩
      rw [ew3] at t3 b3 ⊢
      have S3 := HST.out.turn t3 (by simp)
      have HS3 := Lib.hid S3
      have HJ3 := Lib.hid (HJb.out [gs, bs] [gs, bs] pre w2 w3 HJ2.out b3 (fun z hz => .inl hz))
      have HB3 := Lib.hid (HB2.out.below b3 HB2.out.lt)
      have HW3 := Lib.hid (HW2.out.below b3 HW2.out.lt)
      have q0' : w3.cell? ⟨bs, 0, none⟩ = some (.pointer (some ⟨g.b, 0, none⟩)) := HB3.out.cell 0
      have q1' : w3.cell? ⟨g.b, 5, none⟩ = some (.pointer (some ⟨g.kb, 0, none⟩)) := S3.blk.cell 5
      have HA0 := hasF_any g.kb g.kg E.G.length _ (p : Int) w3 S3.lk
      have hin : inI E.G.length (fun x => decide (x ∈ (stP E t0 pre).od)) (p : Int) = decide (p ∈ (stP E t0 pre).od) := by unfold inI; rw [inB_in hpl]; simp
      rw [hin] at HA0
      clear hin q0 q1 q2 hlk hlk1 S3 t3 b3 ew3 HB2 HW2 HJ2 HST
      by_cases hod : p ∈ (stP E t0 pre).od
      · rw [decide_eq_true hod] at HA0
        have HA := Lib.hid HA0
        have HDN : Hid (∀ j q, j < k + 1 → t0.ps[j]? = some q → q ∈ (stP E t0 pre).od) := Lib.hid (fun j q hj hq => by
          rcases Nat.lt_or_ge j k with h | h
          · exact HD.out j q h hq
          · obtain rfl : j = k := by omega
            rw [HPS.out] at hq
            injection hq with hq
            subst hq
            exact hod)
        clear HA0 hod
        gi_wp2_with (gi_at_call 46; refine (callsIn_wide.2 HA.out).mono ?_; rintro e w4 ⟨rfl, m4, hw4⟩; have b4 : Below w3.heap.size w3 w4 := (by rw [hw4]; exact below_drewN (Below.refl _ _) m4); have HJ4 := Lib.hid (HJb.out [gs, bs] [gs, bs] pre w3 w4 HJ3.out b4 (fun z hz => .inl hz)); have HB4 := Lib.hid (HB3.out.below b4 HB3.out.lt); have HW4 := Lib.hid (HW3.out.below b4 HW3.out.lt); clear hw4 b4)
        refine ⟨fun f h => (by cases h), ?_⟩
        gi_wp2
        go_roundw
        case rel => exact ⟨k + 1, pre, by omega, by go_num, HJ4, HB4, HW4, HDN⟩
        case measure => simp [intOf]; omega
      · rw [decide_eq_false hod] at HA0
        have HA := Lib.hid HA0
        have HNX : Hid (nextP (stP E t0 pre) = some p) := Lib.hid (nextP_at (i := k) (by rw [HPS2.out]; exact HPS.out) hod (fun j q hj hq => HD.out j q hj (by rw [← HPS2.out]; exact hq)))
        have HDN : Hid (∀ j q, j < k + 1 → t0.ps[j]? = some q → q ∈ (stP E t0 (pre ++ [p])).od) := Lib.hid (fun j q hj hq => by
          rw [stP_snoc, lookP_od]
          rcases Nat.lt_or_ge j k with h | h
          · exact List.mem_append_left _ (HD.out j q h hq)
          · obtain rfl : j = k := by omega
            rw [HPS.out] at hq
            injection hq with hq
            subst hq
            simp)
        clear HA0 hod
        gi_wp2_with (gi_at_call 46; refine (callsIn_wide.2 HA.out).mono ?_; rintro e w4 ⟨rfl, m4, hw4⟩; have b4 : Below w3.heap.size w3 w4 := (by rw [hw4]; exact below_drewN (Below.refl _ _) m4); have hJ4 := HJb.out [gs, bs] [gs, bs] pre w3 w4 HJ3.out b4 (fun z hz => .inl hz); have HB4 := Lib.hid (HB3.out.below b4 HB3.out.lt); have HW4 := Lib.hid (HW3.out.below b4 HW3.out.lt); obtain ⟨fn, tmps, assign, body, hyy, hR⟩ := HY.out _ _ _ w4 hJ4 HNX.out; have hy' : (Instr.yield l #[.int .i64 (p : Int)]).run Try.prog w4 = .ok (.round l fn tmps assign body) w4 := hyy; have HR := Lib.hid hR; clear hw4 b4 hJ4 hR hyy)
        refine HR.out.mono ?_
        rintro e w5 (⟨rfl, hJ5, hK5⟩ | ⟨rfl, hJx⟩)
        · have HB5 := Lib.hid (keeps_whole HB4.out hK5 (by simp))
          have HW5 := Lib.hid (keeps_whole HW4.out hK5 (by simp))
          have HJ5 := Lib.hid hJ5
          clear hJ5 hK5
          gi_wp2
          go_roundw
          case rel => exact ⟨k + 1, pre ++ [p], by omega, by go_num, HJ5, HB5, HW5, HDN⟩
          case measure => simp [intOf]; omega
        · gi_wp2
          refine bodyPost_ret (results_none rfl _ _ _) rfl ?_
          exact ⟨⟨_, rfl⟩, .inr ⟨_, hJx⟩⟩
    · obtain rfl : k = N := by omega
      have HX : Hid (nextP (stP E t0 pre) = none) := Lib.hid (nextP_all (fun q hq => by
        obtain ⟨F, _, _, hps, _⟩ := HJK.out _ _ _ HJ.out
        rw [hps] at hq
        obtain ⟨j, hj, rfl⟩ := List.getElem_of_mem hq
        exact HD.out j _ (by have := HLL.out; omega) (List.getElem?_eq_getElem hj)))
      have HJ0 := Lib.hid (HJb.out [gs, bs] [] pre wr wr HJ.out (Below.refl _ _) (by simp))
      gi_wp2
      go_end0
      exact ⟨⟨_, rfl⟩, .inl ⟨pre, HX.out, HJ0.out⟩⟩
end Go.Proofs.Ytkdepoaajhggiaa
