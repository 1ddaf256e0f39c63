/- The walk of 'alive' (heap), of 'unlike' and of 'fill'. -/
import Derived.Test.YtaempklgmoabcaaHh
import Derived.Test.YtaempklgmoabcaaVq
namespace Go.Proofs.Ytaempklgmoabcaa
open Go.Shelf Go.RowKit Go.Lib
open Go.Sort hiding Below
set_option linter.unusedVariables false
/-- A heap of the call's own, made behind the world w. -/
def Mine (w : World) (w' : World) (b : Nat) (F : List Nat) (most : Nat) (ys : HL) : Prop := HeapIs w' b F most ys ∧ (∀ f ∈ F, w.heap.size ≤ f) ∧ Turn [] w w'
theorem Mine.pushed {w w1 w2 : World} {b most : Nat} {F : List Nat} {ys : HL} {z : Int × Int} (h : Mine w w1 b F most ys) {F' : List Nat} (hI : HeapIs w2 b F' most (pushH most ys z)) (t : Turn F w1 w2) (hF : ∀ f ∈ F', f ∈ F ∨ w1.heap.size ≤ f) : Mine w w2 b F' most (pushH most ys z) :=
  ⟨hI, fun f hf => by rcases hF f hf with h1 | h1; exact h.2.1 f h1; exact Nat.le_trans h.2.2.size h1, h.2.2.trans t (fun a ha => .inr (h.2.1 a ha))⟩
theorem Mine.same {w w1 w2 : World} {b most : Nat} {F : List Nat} {ys : HL} (h : Mine w w1 b F most ys) (t : Turn [] w1 w2) : Mine w w2 b F most ys :=
  ⟨h.1.turn t (fun f _ => by simp), h.2.1, h.2.2.trans t (fun a ha => by simp at ha)⟩
theorem pushS {most : Nat} {ys zs : HL} {z : Int × Int} (ht : tookH most ys z = true) (hp : ((if ys.length = most then ys.dropLast else ys) ++ [z]).Perm zs) (hu : Up zs) : pushH most ys z = zs := by
  unfold pushH; rw [if_pos ht]; exact srt_eq_of hp hu
theorem pushN {most : Nat} {ys : HL} {z : Int × Int} (ht : tookH most ys z = false) : pushH most ys z = ys := by
  unfold pushH; rw [ht]; rfl
def PushM (w : World) (b most : Nat) (r : Bool) (ys : HL) (e : Ending) (w' : World) : Prop := e = .returned (.bool r) ∧ ∃ F, Mine w w' b F most ys
theorem pushM (w w1 : World) (b most : Nat) (F : List Nat) (ys zs : HL) (x y : Int) (r : Bool) (h : Mine w w1 b F most ys) (hx : HitOk (x, y)) (hr : tookH most ys (x, y) = r) (hz : pushH most ys (x, y) = zs) :
    Calls Try.prog 18 #[.pointer (some ⟨b, 0, none⟩), .agg #[.int .u64 x, .int .i64 y]] w1 (PushM w b most r zs) := by
  refine (hPushM_any b F most ys x y w1 h.1 hx).mono ?_
  rintro e w2 ⟨rfl, F', hI, t, hF⟩
  refine ⟨by rw [hr], F', ?_⟩
  have := h.pushed hI t hF
  rwa [hz] at this
theorem a1 : tookH 2 [] (1, 5) = true := rfl
theorem a2 : tookH 2 [(1, 5)] (1, 2) = false := rfl
theorem a3 : tookH 2 [(1, 5)] (2, 9) = true := rfl
theorem a4 : tookH 2 [(1, 5), (2, 9)] (3, 9) = false := rfl
theorem a5 : tookH 2 [(1, 5), (2, 9)] (4, 1) = true := rfl
theorem b1 : pushH 2 [] (1, 5) = [(1, 5)] := pushS a1 (by simp) (by unfold Up; decide)
theorem b2 : pushH 2 [(1, 5)] (1, 2) = [(1, 5)] := pushN a2
theorem b3 : pushH 2 [(1, 5)] (2, 9) = [(1, 5), (2, 9)] := pushS a3 (by simp) (by unfold Up; decide)
theorem b4 : pushH 2 [(1, 5), (2, 9)] (3, 9) = [(1, 5), (2, 9)] := pushN a4
theorem b5 : pushH 2 [(1, 5), (2, 9)] (4, 1) = [(4, 1), (1, 5)] := pushS a5 (by simpa using List.Perm.swap _ _ _) (by unfold Up; decide)
set_option maxRecDepth 100000 in
set_option maxHeartbeats 4000000 in
theorem alive_any (w : World) : Calls Try.prog 8 #[] w fun e w' => e = .returned (.bool true) ∧ Turn [] w w' := by
  have hitok : ∀ x y : Int, (Lit.int .u64 x).wf = true → (Lit.int .i64 y).wf = true → HitOk (x, y) := fun _ _ h1 h2 => ⟨h1, h2⟩
  have H1 := Lib.hid (hNew_yes 2 w (by omega) (by omega))
  go_enter Try.func8, Try.ntmps8
  go_wp2_with fail
  refine H1.out.mono ?_
  rintro e w1 ⟨b, F, rfl, hI, hF, t1⟩
  have M : Mine w w1 b F 2 [] := ⟨hI, hF, t1⟩
  have H2 := Lib.hid (pushM w w1 b 2 F [] _ 1 5 _ M (hitok _ _ (by decide) (by decide)) a1 b1)
  clear hI hF t1 M H1
  go_wp2_with fail
  refine H2.out.mono ?_
  rintro e w2 ⟨rfl, F2, M⟩
  have H3 := Lib.hid (pushM w w2 b 2 F2 _ _ 1 2 _ M (hitok _ _ (by decide) (by decide)) a2 b2)
  clear M H2
  go_wp2_with fail
  refine H3.out.mono ?_
  rintro e w3 ⟨rfl, F3, M⟩
  have H4 := Lib.hid (pushM w w3 b 2 F3 _ _ 2 9 _ M (hitok _ _ (by decide) (by decide)) a3 b3)
  clear M H3
  go_wp2_with fail
  refine H4.out.mono ?_
  rintro e w4 ⟨rfl, F4, M⟩
  have H5 := Lib.hid (pushM w w4 b 2 F4 _ _ 3 9 _ M (hitok _ _ (by decide) (by decide)) a4 b4)
  clear M H4
  go_wp2_with fail
  refine H5.out.mono ?_
  rintro e w5 ⟨rfl, F5, M⟩
  have H6 := Lib.hid (pushM w w5 b 2 F5 _ _ 4 1 _ M (hitok _ _ (by decide) (by decide)) a5 b5)
  clear M H5
  go_wp2_with fail
  refine H6.out.mono ?_
  rintro e w6 ⟨rfl, F6, M⟩
  have HM := Lib.hid M
  have H7 := Lib.hid (hNew_no 0 w6 (by omega))
  have H8 : Hid (Calls Try.prog 15 #[.pointer (some ⟨b, 0, none⟩)] w6 fun e w' => e = .returned (.tuple #[.agg #[.int .u64 1, .int .i64 5], .bool true]) ∧ Turn [] w6 w') := hWorst_yes b F6 2 _ w6 M.1 (by simp)
  clear M H6
  go_wp2_with fail
  refine H7.out.mono ?_
  rintro e w7 ⟨rfl, rfl⟩
  go_wp2_with fail
  refine H8.out.mono ?_
  rintro e w8 ⟨rfl, t8⟩
  have M := (HM.out.same t8).same ((Turn.refl [] w8).alloc (.cells #[.int .u64 1, .int .i64 5] 28))
  have H9 : Hid (Calls Try.prog 14 #[.pointer (some ⟨b, 0, none⟩)] (w8.alloc (.cells #[.int .u64 1, .int .i64 5] 28)) fun e w' => e = .returned (.int .i64 2) ∧ w' = w8.alloc (.cells #[.int .u64 1, .int .i64 5] 28)) := hLen_any b F6 2 _ _ M.1
  have EQ : ∀ W, Sem.run Try.prog (binOp .eql 28 (.agg #[.int .u64 1, .int .i64 5]) (.agg #[.int .u64 1, .int .i64 5])) W = .ok (.bool true) W := fun W => eqH 1 5 1 5 W
  have HT := Lib.hid M.2.2
  clear M H7 H8 t8
  go_wp2_with fail
  refine H9.out.mono ?_
  rintro e w9 ⟨rfl, rfl⟩
  go_wp2
  go_ret
  exact ⟨rfl, HT.out⟩
theorem idAt {xs : HL} {i : Nat} {x y : Int} (h : xs[i]? = some (x, y)) : (ids xs)[i]? = some x := by simp [ids, h]
theorem nodup_false {xs : HL} {i k : Nat} {x y1 y2 : Int} (hi : xs[i]? = some (x, y1)) (hk : xs[k]? = some (x, y2)) (h : k < i) : decide (ids xs).Nodup = false := by
  refine decide_eq_false (fun hn => ?_)
  have h1 := idAt hi
  have h2 := idAt hk
  obtain ⟨l1, e1⟩ := List.getElem?_eq_some_iff.1 h1
  obtain ⟨l2, e2⟩ := List.getElem?_eq_some_iff.1 h2
  exact List.pairwise_iff_getElem.1 hn k i l2 l1 h (by rw [e1, e2])
/-- No two of the first i IDs are alike. -/
def UnTo (xs : HL) (i : Nat) : Prop := (ids (xs.take i)).Nodup
theorem UnTo.zero (xs : HL) : UnTo xs 0 := by unfold UnTo; simp
theorem UnTo.step {xs : HL} {i : Nat} {x y : Int} (h : UnTo xs i) (hi : xs[i]? = some (x, y)) (hk : ∀ k, k < i → (ids xs)[k]? ≠ some x) : UnTo xs (i + 1) := by
  unfold UnTo at *
  have hl := (List.getElem?_eq_some_iff.1 hi).1
  have he : xs[i] = (x, y) := by rw [List.getElem?_eq_getElem hl] at hi; simpa using hi
  rw [List.take_succ_eq_append_getElem hl, ids, List.map_append, List.nodup_append]
  refine ⟨h, by simp, fun a ha b hb e => ?_⟩
  rw [he] at hb
  simp at hb
  subst hb e
  obtain ⟨k, hk1, hk2⟩ := List.getElem_of_mem ha
  simp only [List.length_map, List.length_take] at hk1
  refine hk k (by omega) ?_
  simp only [List.getElem_map, List.getElem_take] at hk2
  simp only [ids, List.getElem?_map, List.getElem?_eq_getElem (show k < xs.length by omega), Option.map_some, hk2]
theorem UnTo.whole {xs : HL} (h : UnTo xs xs.length) : decide (ids xs).Nodup = true := by
  unfold UnTo at h
  rw [List.take_length] at h
  exact decide_eq_true h
set_option maxRecDepth 100000 in
set_option maxHeartbeats 1000000 in
theorem unlike_any (A : Option Addr) (c : Nat) (xs : HL) (n : Nat) (hn : n = xs.length) (w : World) (D : Nat) (hx : RdH w D A xs) (hl : n < 1000000) :
    Calls Try.prog 9 #[.slice A n c] w fun e w' => e = .returned (.bool (decide (ids xs).Nodup)) ∧ ∃ q, w' = w.drewN q := by
  have HN := Lib.hid hn
  clear hn
  go_enter Try.func9, Try.ntmps9
  go_wp2
  go_loopg [3] n (fun g s wr => ∃ i q : Nat, s = .int .i64 i ∧ i ≤ n ∧ n - i ≤ g ∧ wr = w.drewN q ∧ Hid (UnTo xs i))
  case atStart => exact ⟨0, 0, rfl, by omega, by omega, rfl, UnTo.zero xs⟩
  case round =>
    obtain ⟨i, q, rfl, hi, hg, rfl, HU⟩ := hrel
    by_cases hlt : i < n
    · obtain ⟨b, off, x, y, rfl, hbs, cx, cx', hv⟩ := hx.at_ (i := i) (by have := HN.out; omega)
      have hz : (i : Int) < (n : Int) := by omega
      have hz0 : (0 : Int) ≤ (i : Int) := by omega
      go_wp2
      go_loopg [4] i (fun g2 s2 wr2 => ∃ k q2 : Nat, s2 = .int .i64 k ∧ k ≤ i ∧ i - k ≤ g2 ∧ wr2 = w.drewN q2 ∧ Hid (∀ k', k' < k → (ids xs)[k']? ≠ some x))
      case atStart => exact ⟨0, q, rfl, by omega, by omega, rfl, (fun k' h => absurd h (by omega) : _)⟩
      case round =>
        obtain ⟨k, q2, rfl, hk, hg2, rfl, HK⟩ := hrel
        by_cases hki : k < i
        · obtain ⟨b', off', x2, y2, hA, _, cy, cy', hv2⟩ := hx.at_ (i := k) (by have := HN.out; omega)
          simp only [Option.some.injEq, Addr.mk.injEq, and_true] at hA
          obtain ⟨rfl, rfl⟩ := hA
          have kz : (k : Int) < (i : Int) := by omega
          have kz0 : (0 : Int) ≤ (k : Int) := by omega
          have kz1 : (k : Int) < (n : Int) := by omega
          by_cases he : x = x2
          · subst he
            have E := Lib.hid (nodup_false hv.out hv2.out hki)
            have eb : (x == x) = true := by simp
            go_wp2
            go_quiet (fail)
            go_wp2
            go_ret
            exact ⟨by rw [E.out]; rfl, _, drewN_drewNH _ _ _⟩
          · have eb : (x == x2) = false := by simpa using he
            have HK2 : Hid (∀ k', k' < k + 1 → (ids xs)[k']? ≠ some x) := fun k' h => by
              rcases Nat.lt_or_ge k' k with h1 | h1
              · exact HK.out k' h1
              · obtain rfl : k' = k := by omega
                rw [idAt hv2.out]
                intro e
                injection e with e
                exact he e.symm
            clear he
            go_wp2
            go_quiet (fail)
            go_wp2
            go_roundg (i - (k + 1))
            case measure => omega
            case rel => exact ⟨k + 1, _, by go_num, by omega, by omega, rfl, HK2⟩
        · have kz : ¬ (k : Int) < (i : Int) := by omega
          have HU2 : Hid (UnTo xs (i + 1)) := HU.out.step hv.out (fun k' h => HK.out k' (by omega))
          go_wp2
          go_roundg (n - (i + 1))
          case measure => omega
          case rel => exact ⟨i + 1, q2, by go_num, by omega, by omega, rfl, HU2⟩
    · have hz : ¬ (i : Int) < (n : Int) := by omega
      go_wp2
      go_ret
      refine ⟨?_, q, rfl⟩
      have : UnTo xs xs.length := by have h1 := HU.out; have h2 := HN.out; rwa [show i = xs.length by omega] at h1
      rw [this.whole]; rfl
/-- What a heap for so many keeps of hits that are pushed, one behind the other. -/
def pushAll (most : Nat) (ys : HL) (xs : HL) : HL := xs.foldl (pushH most) ys
theorem pushAll_step {most : Nat} {ys xs : HL} {i : Nat} {z : Int × Int} (h : xs[i]? = some z) : pushAll most ys (xs.take (i + 1)) = pushH most (pushAll most ys (xs.take i)) z := by
  have hl := (List.getElem?_eq_some_iff.1 h).1
  have he : xs[i] = z := by rw [List.getElem?_eq_getElem hl] at h; simpa using h
  unfold pushAll
  rw [List.take_succ_eq_append_getElem hl, List.foldl_append, he]
  rfl
def FillYes (w : World) (most : Nat) (xs : HL) (e : Ending) (w' : World) : Prop := ∃ b F, e = .returned (.pointer (some ⟨b, 0, none⟩)) ∧ Mine w w' b F most (pushAll most [] xs)
set_option maxRecDepth 100000 in
set_option maxHeartbeats 1000000 in
theorem fill_any (most : Nat) (A : Option Addr) (c : Nat) (xs : HL) (n : Nat) (hn : n = xs.length) (w : World) (hx : RdH w w.heap.size A xs) (ok : ∀ x ∈ xs, HitOk x) (hl : n < 1000000) (h1 : 1 ≤ most) (h2 : most ≤ 256) :
    Calls Try.prog 12 #[.int .i64 most, .slice A n c] w (FillYes w most xs) := by
  have HN := Lib.hid hn
  have H1 := Lib.hid (hNew_yes most w h1 h2)
  have OK := Lib.hid ok
  clear hn ok
  go_enter Try.func12, Try.ntmps12
  go_wp2_with fail
  refine H1.out.mono ?_
  rintro e w1 ⟨b, F, rfl, hI, hF, t1⟩
  have M : Mine w w1 b F most [] := ⟨hI, hF, t1⟩
  have HM := Lib.hid M
  clear H1 hI hF t1 M
  go_wp2
  go_loopg [7] n (fun g s wr => ∃ (i : Nat) (F2 : List Nat), s = .int .i64 i ∧ i ≤ n ∧ n - i ≤ g ∧ Hid (Mine w wr b F2 most (pushAll most [] (xs.take i))))
  case atStart => exact ⟨0, F, rfl, by omega, by omega, (show Mine w w1 b F most (pushAll most [] (xs.take 0)) from by have := HM.out; simpa [pushAll] using this)⟩
  case round =>
    clear HM
    obtain ⟨i, F2, rfl, hi, hg, HM⟩ := hrel
    by_cases hlt : i < n
    · have hxr := (hx.below (HM.out.2.2.below (B := w.heap.size) (by simp) (Nat.le_refl _)))
      obtain ⟨bb, off, x, y, rfl, hbs, cx, cx', hv⟩ := hxr.at_ (i := i) (by have := HN.out; omega)
      have hz : (i : Int) < (n : Int) := by omega
      have hz0 : (0 : Int) ≤ (i : Int) := by omega
      have ho : HitOk (x, y) := OK.out _ (List.mem_of_getElem? hv.out)
      have H2 := Lib.hid (hPushM_any b F2 most _ x y wr HM.out.1 ho)
      go_wp2_with fail
      refine H2.out.mono ?_
      rintro e w2 ⟨rfl, F3, hI, t, hF⟩
      have HM2 : Hid (Mine w w2 b F3 most (pushAll most [] (xs.take (i + 1)))) := by
        have := HM.out.pushed hI t hF
        rw [← pushAll_step hv.out] at this
        exact this
      clear hI t hF H2 cx cx' hxr
      go_wp2
      go_roundg (n - (i + 1))
      case measure => omega
      case rel => exact ⟨i + 1, F3, by go_num, by omega, by omega, HM2⟩
    · have hz : ¬ (i : Int) < (n : Int) := by omega
      go_wp2
      go_ret
      refine ⟨b, F2, rfl, ?_⟩
      have := HM.out
      rwa [List.take_of_length_le (by have := HN.out; omega)] at this
end Go.Proofs.Ytaempklgmoabcaa
