/- The walks of package means: slices.Clone of a vector, meanOr; a list of vectors that is filled place by place. -/
import Derived.Test.YtcakmcegcbameaaMd
namespace Go.Proofs.Ytcakmcegcbameaa
open Go.RowKit Go.Maps
set_option linter.unusedVariables false
set_option maxRecDepth 100000 in
set_option maxHeartbeats 1000000 in
theorem clone8_any (a : Option Addr) (c : Nat) (v : List Int) (w : World) (hr : Rd .i8 w w.heap.size a v) (h1 : 1 ≤ v.length) (h2 : v.length ≤ 64) :
    Calls Try.prog 46 #[.slice a v.length c] w fun e w' => ∃ xa xc, e = .returned (.slice xa v.length xc) ∧ VOwn w' w.heap.size (xa, xc, v) ∧ Below w.heap.size w w' := by
  obtain ⟨b, off, rfl, hB, hc⟩ := hr (by omega)
  have owne : (w.alloc (.cells #[] 52)).ownsRow w.heap.size 52 1 (.slice (some ⟨w.heap.size, 0, none⟩) 0 0) 0 (([] : List Int).map (Value.int .i8)) := World.ownsRow_lit (base := w.heap.size) (e := 52) (size := 1) w #[] 0 (Nat.le_refl _) (by decide) rfl
  have hrd2 : Rd .i8 (w.alloc (.cells #[] 52)) w.heap.size (some ⟨b, off, none⟩) v := hr.below ((Below.refl _ _).alloc (Nat.le_refl _) _)
  obtain ⟨i0, hi, hz0, hz1, hz2⟩ := info_parts Try.info52
  have he : ∀ w : World, (binOp .eql 23 (.slice (some ⟨b, off, none⟩) v.length c) (.slice none 0 0)).run Try.prog w = .ok (.bool false) w := fun _ => rfl
  clear hc hr
  go_enter Try.func46, Try.ntmps46
  go_wp2_with (at_builtin; refine wpList_app _ rfl _ _ 23 rfl w.heap.size 52 i0 (.int .i8 0) 1 Try.underlying23 hi hz0 hz1 hz2 rfl .i8 (.slice (some ⟨w.heap.size, 0, none⟩) 0 0) 0 [] rfl owne (some ⟨b, off, none⟩) v.length c v w.heap.size rfl rfl hrd2 (fun e => by cases e) (by show 0 + v.length ≤ 9223372036854775807; omega) (by omega) (by simp) ?_; intro v' w1 hown' hgrow)
  rw [Nat.zero_add, List.nil_append] at hown'
  obtain ⟨xa, xm, xc, rfl⟩ := own_form hown'
  obtain rfl := own_len hown'
  have hb5 : Below w.heap.size w w1 := ((Below.refl _ _).alloc (Nat.le_refl _) _).grown hgrow (by simp) (fun r hr => by
    have : w.heap.size = r := by simpa [Value.ownBlock] using hr
    omega)
  go_ret
  exact ⟨xa, xc, rfl, hown', hb5⟩
/-- What stands in place of a mean. -/
def orMean (g : List (List Int)) (v : List Int) : List Int := if g = [] then v else meanL g
set_option maxRecDepth 100000 in
set_option maxHeartbeats 1000000 in
theorem meanOr_any (A : Option Addr) (c : Nat) (G : List Vc) (n : Nat) (hn : n = G.length) (a : Option Addr) (d : Nat) (v : List Int) (w : World) (hG : RdV w w.heap.size A G) (hm : vecs G ≠ [] → mayB (vecs G) = true) (hb : B8 (vecs G)) (hr : Rd .i8 w w.heap.size a v) (h1 : 1 ≤ v.length) (h2 : v.length ≤ 64) :
    Calls Try.prog 41 #[.slice A n c, .slice a v.length d] w fun e w' => ∃ xa xc, e = .returned (.slice xa (orMean (vecs G) v).length xc) ∧ VOwn w' w.heap.size (xa, xc, orMean (vecs G) v) ∧ Below w.heap.size w w' := by
  subst hn
  by_cases hg : vecs G = []
  · have hl : G.length = 0 := by rw [← vecs_len, hg]; rfl
    have e : orMean (vecs G) v = v := if_pos hg
    rw [e, hl]
    have H := Lib.hid (clone8_any a d v w hr h1 h2)
    clear hG hm hb hr hg hl e
    go_enter Try.func41, Try.ntmps41
    go_wp2_with (go_at_call 46; refine H.out.mono ?_; rintro e w' ⟨xa, xc, rfl, ho, hB⟩)
    go_ret
    exact ⟨xa, xc, rfl, ho, hB⟩
  · have hl : 1 ≤ G.length := by
      rw [← vecs_len]
      cases h : vecs G with
      | nil => exact absurd h hg
      | cons x y => simp
    have hz : ((G.length : Int) == 0) = false := by rw [beq_eq_false_iff_ne]; omega
    have e : orMean (vecs G) v = meanL (vecs G) := if_neg hg
    rw [e]
    have ME := mean_yes A c G _ rfl w hG (hm hg) hb
    rw [← meanL_len] at ME
    have H := Lib.hid ME
    clear ME hG hm hb hr hg e hl
    obtain ⟨u, eu⟩ : ∃ u, meanL (vecs G) = u := ⟨_, rfl⟩
    rw [eu] at H ⊢
    clear eu
    go_enter Try.func41, Try.ntmps41
    go_wp2_with (go_at_call 49; refine H.out.mono ?_; rintro e w' ⟨rfl, ho, hB⟩)
    go_ret
    exact ⟨_, _, rfl, ho, hB⟩
theorem ApartL.nil : ApartL [] := List.Pairwise.nil
theorem ApartL.snoc {w w' : World} {base : Nat} {L : List Vc} {x : Vc} (h : ApartL L) (hy : ∀ y ∈ L, VOwn w base y) (hx : VOwn w' w.heap.size x) : ApartL (L ++ [x]) := by
  unfold ApartL
  rw [List.pairwise_append]
  refine ⟨h, List.pairwise_singleton _ _, fun y hy1 z hz => ?_⟩
  rw [List.mem_singleton] at hz
  subst hz
  cases hb : (Value.slice y.1 y.2.2.length y.2.1).ownBlock with
  | none => exact .inl rfl
  | some g =>
    refine .inr (fun e => ?_)
    have h1 := ((hy y hy1).lt g hb).2
    have h2 := (hx.lt g e.symm).1
    omega
/-- A list of vectors of the call's own, of n places, of which the first ones are filled. -/
structure Fil (base : Nat) (w : World) (g n : Nat) (T : List Vc) : Prop where
  row : w.ownsRow base 23 1 (.slice (some ⟨g, 0, none⟩) n n) n (cellsT T (n - T.length)).toList
  own : ∀ x ∈ T, VOwn w base x
  apart : ApartL T
  len : T.length ≤ n
theorem Fil.made {base : Nat} {w : World} {g n : Nat} (h : w.ownsRow base 23 1 (.slice (some ⟨g, 0, none⟩) n n) n (madeCells (Value.slice none 0 0).cells (n * 1)).toList) : Fil base w g n [] := by
  refine ⟨?_, fun x hx => by simp at hx, ApartL.nil, by simp⟩
  rw [Nat.mul_one, show (Value.slice none 0 0).cells = #[Value.slice none 0 0] from rfl, cellsT_made] at h
  exact h
theorem Fil.below {base : Nat} {w w' : World} {g n : Nat} {T : List Vc} (h : Fil base w g n T) (hb : Below w.heap.size w w') : Fil base w' g n T :=
  ⟨own_below h.row hb, fun x hx => own_below (h.own x hx) hb, h.apart, h.len⟩
theorem Fil.cell {base : Nat} {w : World} {g n : Nat} {T : List Vc} (h : Fil base w g n T) (hk : T.length < n) : w.cell? ⟨g, T.length, none⟩ = some (.slice none 0 0) := by
  have h1 := h.row.cellAt T.length (by simpa using hk)
  rw [h1]
  have h2 := cellsT_free (T := T) (r := n - T.length) (i := 0) (by omega)
  rw [Nat.add_zero] at h2
  rw [← h2]; simp
theorem Fil.put {base : Nat} {w w' : World} {g n : Nat} {T : List Vc} (h : Fil base w g n T) (hk : T.length < n) (hb : Below w.heap.size w w') (hbase : base ≤ w.heap.size) {x : Vc} (hx : VOwn w' w.heap.size x) : Fil base (w'.setCell ⟨g, T.length, none⟩ (.slice x.1 x.2.2.length x.2.1)) g n (T ++ [x]) := by
  have hr := own_below h.row hb
  have hs := hr.stored T.length (.slice x.1 x.2.2.length x.2.1)
  have e : (cellsT T (n - T.length)).toList.set T.length (.slice x.1 x.2.2.length x.2.1) = (cellsT (T ++ [x]) (n - (T ++ [x]).length)).toList := by
    rw [← Array.toList_setIfInBounds, show n - T.length = (n - (T ++ [x]).length) + 1 by simp; omega, cellsT_set]
  rw [e] at hs
  refine ⟨hs.1, fun y hy => ?_, h.apart.snoc h.own hx, by simp; omega⟩
  rcases List.mem_append.1 hy with h1 | h1
  · exact VOwn.grown (x := y) (own_below (h.own y h1) hb) hr hs.2
  · rw [List.mem_singleton] at h1
    subst h1
    exact VOwn.grown (x := y) (own_base hx hbase) hr hs.2
theorem Fil.done {base : Nat} {w : World} {g n : Nat} {T : List Vc} (h : Fil base w g n T) (hk : T.length = n) : OwnV w base (some ⟨g, 0, none⟩) n T := by
  subst hk
  refine ⟨?_, h.own⟩
  have := h.row
  rw [Nat.sub_self] at this
  unfold cellsT at this
  simpa using this
end Go.Proofs.Ytcakmcegcbameaa
