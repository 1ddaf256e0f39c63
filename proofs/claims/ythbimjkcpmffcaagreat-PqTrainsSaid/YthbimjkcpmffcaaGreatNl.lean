/- Several texts in one. -/
import Derived.Test.YthbimjkcpmffcaaGreatNf
import Derived.Test.YthbimjkcpmffcaaGreatSe
import Derived.Deep.QuietTactic
import Derived.BigQuiet
import Derived.Test.YthbimjkcpmffcaaGreatNa
import Derived.Test.YthbimjkcpmffcaaGreatB8
import Derived.Lib.JoinLaws
import Derived.Test.YthbimjkcpmffcaaGreatNp
/- The walks of the statements' own helpers on lists of vectors: VectorsSize, great, SameVectors. -/
namespace Go.Proofs.YthbimjkcpmffcaaGreat
open Go.RowKit
set_option linter.unusedVariables false
/-- How much there is. -/
def sizeL (vs : List (List Int)) : Nat := vs.length + (vs.map List.length).sum
theorem sizeL_vec {vs : List (List Int)} {v : List Int} (h : v ∈ vs) : v.length ≤ (vs.map List.length).sum := by
  induction vs with
  | nil => simp at h
  | cons a r ih =>
    simp only [List.map_cons, List.sum_cons]
    rcases List.mem_cons.1 h with h1 | h1
    · subst h1; omega
    · have := ih h1; omega
theorem sum_take_len {vs : List (List Int)} {i : Nat} {v : List Int} (h : vs[i]? = some v) : ((vs.take (i + 1)).map List.length).sum = ((vs.take i).map List.length).sum + v.length := by
  rw [List.take_add_one, h]; simp
/-- What VectorsSize tells of lists of vectors: how much there is, or more than a million. -/
def SzIs (vs : List (List Int)) (z : Int) : Prop := 0 ≤ z ∧ z ≤ 281474976711656 ∧ (z = sizeL vs ∨ 1000000 < z)
set_option maxRecDepth 100000 in
set_option maxHeartbeats 1000000 in
theorem size_any (A : Option Addr) (c : Nat) (L : List Vc) (n : Nat) (hn : n = L.length) (w : World) (B : Nat) (hx : RdV w B A L) (hl : L.length ≤ 140737488355328) (hv : ∀ v ∈ vecs L, v.length ≤ 140737488355328) :
    Calls Tryz.prog 24 #[.slice A n c] w fun e w' => (∃ z, e = .returned (.int .i64 z) ∧ SzIs (vecs L) z) ∧ w = w' := by
  subst hn
  have HV := Lib.hid hv
  have HL := Lib.hid (show (vecs L).length = L.length from vecs_len L)
  clear hv
  go_enter Tryz.func24, Tryz.ntmps24
  go_wp2
  go_loop [3, 4] (fun s i => ∃ k m : Nat, k ≤ L.length ∧ i = .int .i64 k ∧ s = .int .i64 m ∧ Hid (m = L.length + (((vecs L).take k).map List.length).sum) ∧ (m ≤ 140737489355328 ∨ m ≤ 281474976711656 ∧ 1000000 < m)) (fun _ i => L.length - (intOf i).toNat)
  case atStart => exact ⟨0, L.length, by omega, rfl, rfl, Lib.hid (by simp), by omega⟩
  case round =>
    obtain ⟨k, m, hk, rfl, rfl, hm, hb⟩ := hrel
    by_cases hlt : k < L.length
    · have e1 : decide ((k : Int) < (L.length : Int)) = true := decide_eq_true (by omega)
      by_cases hle : m ≤ 1000000
      · have e2 : decide ((m : Int) ≤ 1000000) = true := decide_eq_true (by omega)
        obtain ⟨b, off, a1, c1, v1, rfl, hBk, hck, hrd, hv1⟩ := hx.at_ hlt
        have hvl := HV.out v1 (List.mem_of_getElem? (vecs_at hv1.out))
        have hs := sum_take_len (vecs_at hv1.out)
        have HS : Hid (m + v1.length = L.length + (((vecs L).take (k + 1)).map List.length).sum) := Lib.hid (by rw [hs, hm.out]; omega)
        clear hs hm hb hrd hv1
        go_wp2
        go_round
        case rel => exact ⟨k + 1, m + v1.length, by omega, by go_num, by go_num, HS, by omega⟩
        case measure => simp [intOf]; omega
      · have e2 : decide ((m : Int) ≤ 1000000) = false := decide_eq_false (by omega)
        have HZ := Lib.hid (show SzIs (vecs L) (m : Nat) from ⟨by omega, by omega, .inr (by omega)⟩)
        clear hm hb hle
        go_wp2
        go_ret
        exact ⟨⟨_, rfl, HZ.out⟩, rfl⟩
    · obtain rfl : k = L.length := by omega
      have e1 : decide ((L.length : Int) < (L.length : Int)) = false := decide_eq_false (by omega)
      have h1 := hm.out
      rw [List.take_of_length_le (by rw [HL.out]; exact Nat.le_refl _)] at h1
      have HZ := Lib.hid (show SzIs (vecs L) (m : Nat) from ⟨by omega, by omega, .inl (by unfold sizeL; rw [HL.out]; omega)⟩)
      clear hm hb h1
      go_wp2
      go_ret
      exact ⟨⟨_, rfl, HZ.out⟩, rfl⟩
/-- Lists of vectors of which all hold no more than is gone through. -/
def Small (L : List Vc) : Prop := sizeL (vecs L) ≤ 20000
theorem Small.len {L : List Vc} (h : Small L) : L.length ≤ 20000 := by unfold Small sizeL at h; rw [vecs_len] at h; omega
theorem Small.vec {L : List Vc} (h : Small L) {v : List Int} (hv : v ∈ vecs L) : v.length ≤ 20000 := by have := sizeL_vec hv; unfold Small sizeL at h; omega
/-- What great answers. -/
def GreatIs (Ls : List (Option Addr × Nat × List Vc)) (e : Ending) : Prop := ∃ b : Bool, e = .returned (.bool b) ∧ (b = false → ∀ x ∈ Ls, Small x.2.2)
/-- An argument of great. -/
structure GArg (w : World) (B g i : Nat) (x : Option Addr × Nat × List Vc) : Prop where
  cell : w.cell? ⟨g, i, none⟩ = some (.slice x.1 x.2.2.length x.2.1)
  rd : RdV w B x.1 x.2.2
  len : x.2.2.length ≤ 140737488355328
  vec : ∀ v ∈ vecs x.2.2, v.length ≤ 140737488355328
/-- SameVectors: are they the same? -/
theorem vecs_ext {L M : List Vc} (hl : M.length = L.length) (h : ∀ j, j < L.length → vAt (vecs L) j = vAt (vecs M) j) : vecs L = vecs M := by
  apply List.ext_getElem?
  intro i
  by_cases hi : i < L.length
  · have h1 := h i hi
    unfold vAt at h1
    have a1 : i < (vecs L).length := by rw [vecs_len]; exact hi
    have a2 : i < (vecs M).length := by rw [vecs_len]; omega
    rw [List.getElem?_eq_getElem a1, List.getElem?_eq_getElem a2] at h1 ⊢
    simpa using h1
  · rw [List.getElem?_eq_none (by rw [vecs_len]; omega), List.getElem?_eq_none (by rw [vecs_len]; omega)]
set_option maxRecDepth 100000 in
set_option maxHeartbeats 1000000 in
theorem sameVecs_any (A : Option Addr) (c : Nat) (L : List Vc) (n : Nat) (hn : n = L.length) (B : Option Addr) (d : Nat) (M : List Vc) (m : Nat) (hm : m = M.length) (w : World) (D : Nat) (hx : RdV w D A L) (hy : RdV w D B M) (hl : L.length ≤ 140737488355328) (hl2 : M.length ≤ 140737488355328) (hv : ∀ v ∈ vecs L, v.length ≤ 140737488355328) (hv2 : ∀ v ∈ vecs M, v.length ≤ 140737488355328) :
    Calls Tryz.prog 88 #[.slice A n c, .slice B m d] w fun e w' => e = .returned (.bool (decide (vecs L = vecs M))) ∧ ∃ nq, w' = w.drewN nq := by
  subst hn hm
  by_cases hlen : L.length = M.length
  · have ne : ((L.length : Int) != (M.length : Int)) = false := by simp; omega
    have HL := Lib.hid hlen
    have HV := Lib.hid hv
    have HV2 := Lib.hid hv2
    clear hlen hv hv2
    go_enter Tryz.func88, Tryz.ntmps88
    go_wp2
    go_loopw [5] (fun i wr => ∃ k nq : Nat, k ≤ L.length ∧ i = .int .i64 k ∧ Hid (wr = w.drewN nq) ∧ Hid (∀ j, j < k → vAt (vecs L) j = vAt (vecs M) j)) (fun i _ => L.length - (intOf i).toNat)
    case atStart => exact ⟨0, 0, by omega, rfl, rfl, (fun j hj => absurd hj (Nat.not_lt_zero _) : ∀ j, j < 0 → vAt (vecs L) j = vAt (vecs M) j)⟩
    case round =>
      obtain ⟨k, nq0, hk, rfl, hwr, HK⟩ := hrel
      by_cases hlt : k < L.length
      · have hlt2 : k < M.length := by have := HL.out; omega
        have hx' : RdV wr D A L := by rw [hwr.out]; exact hx.below (below_drewN (Below.refl D w) nq0)
        have hy' : RdV wr D B M := by rw [hwr.out]; exact hy.below (below_drewN (Below.refl D w) nq0)
        obtain ⟨b, off, a1, c1, v1, rfl, hBk, hck, hrd, hv1⟩ := hx'.at_ hlt
        obtain ⟨b', off', a2, c2, v2, rfl, hBk', hck', hrd', hv2⟩ := hy'.at_ hlt2
        have SE := Lib.hid (fun q => same8_any a1 a2 c1 c2 v1 v2 (wr.drewN q) D (hrd.below (below_drewN (Below.refl D wr) q)) (hrd'.below (below_drewN (Below.refl D wr) q)) (HV.out v1 (List.mem_of_getElem? (vecs_at hv1.out))) (HV2.out v2 (List.mem_of_getElem? (vecs_at hv2.out))))
        have g1 : (0 : Int) ≤ (k : Int) := by omega
        have g2 : (k : Int) < (L.length : Int) := by omega
        have g3 : (k : Int) < (M.length : Int) := by omega
        clear hx' hy' hrd hrd'
        by_cases he : v1 = v2
        · have eb : eqB v1 v2 = true := decide_eq_true he
          rw [eb] at SE
          have HN : Hid (∀ j, j < k + 1 → vAt (vecs L) j = vAt (vecs M) j) := Lib.hid (fun j hj => by
            rcases Nat.lt_or_ge j k with h | h
            · exact HK.out j h
            · obtain rfl : j = k := by omega
              rw [vecs_vAt hv1.out, vecs_vAt hv2.out]; exact he)
          clear he eb hv1 hv2 HK
          go_wp2
          go_quiet ((go_at_call 128; with_reducible exact Calls.quiet_of (SE.out _)))
          go_wp2
          go_roundw
          case rel => exact ⟨k + 1, _, by omega, by go_num, Lib.hid (by rw [hwr.out, World.drewN_drewN]), HN⟩
          case measure => simp [intOf]; omega
        · have eb : eqB v1 v2 = false := decide_eq_false he
          rw [eb] at SE
          have E : Hid (decide (vecs L = vecs M) = false) := Lib.hid (decide_eq_false (fun h => he (by
            have h1 := vecs_vAt hv1.out
            rw [h, vecs_vAt hv2.out] at h1
            exact h1.symm)))
          clear he eb hv1 hv2 HK
          go_wp2
          go_quiet ((go_at_call 128; with_reducible exact Calls.quiet_of (SE.out _)))
          go_wp2
          go_ret
          exact ⟨retb E.out.symm, _, by rw [hwr.out, World.drewN_drewN]⟩
      · obtain rfl : k = L.length := by omega
        have E : Hid (decide (vecs L = vecs M) = true) := Lib.hid (decide_eq_true (vecs_ext HL.out.symm HK.out))
        clear HK
        go_wp2
        go_ret
        exact ⟨retb E.out.symm, nq0, hwr.out⟩
  · have ne : ((L.length : Int) != (M.length : Int)) = true := by simp; omega
    have E : Hid (decide (vecs L = vecs M) = false) := Lib.hid (decide_eq_false (fun h => hlen (by rw [← vecs_len L, h, vecs_len])))
    clear hlen hx hy
    go_enter Tryz.func88, Tryz.ntmps88
    go_wp2
    go_ret
    exact ⟨retb E.out.symm, 0, rfl⟩
end Go.Proofs.YthbimjkcpmffcaaGreat
/- The walks of the statements' own helpers on lists of vectors: TwinVectors, LeftVectors. -/
namespace Go.Proofs.YthbimjkcpmffcaaGreat
open Go.RowKit
set_option linter.unusedVariables false
/-- The cells of a row of vectors with r places left. -/
def cellsT (T : List Vc) (r : Nat) : Array Value := (cellsV T ++ List.replicate r (Value.slice none 0 0)).toArray
theorem cellsT_at {T : List Vc} {r i : Nat} {a : Option Addr} {c : Nat} {v : List Int} (h : T[i]? = some (a, c, v)) : (cellsT T r)[i]? = some (.slice a v.length c) := by
  have hl : i < (cellsV T).length := by rw [cellsV_len]; exact (List.getElem?_eq_some_iff.1 h).1
  unfold cellsT
  rw [List.getElem?_toArray, List.getElem?_append_left hl]
  exact cellsV_at h
theorem cellsT_free {T : List Vc} {r i : Nat} (h : i < r) : (cellsT T r)[T.length + i]? = some (.slice none 0 0) := by
  unfold cellsT
  rw [List.getElem?_toArray, List.getElem?_append_right (by rw [cellsV_len]; omega), cellsV_len, show T.length + i - T.length = i by omega, List.getElem?_replicate, if_pos h]
theorem cellsT_set (T : List Vc) (r : Nat) (x : Vc) : (cellsT T (r + 1)).setIfInBounds T.length (.slice x.1 x.2.2.length x.2.1) = cellsT (T ++ [x]) r := by
  unfold cellsT
  apply Array.ext'
  simp only [Array.toList_setIfInBounds]
  rw [List.set_append_right _ _ (by rw [cellsV_len]; exact Nat.le_refl _), cellsV_len, Nat.sub_self, List.replicate_succ, List.set_cons_zero, ← cellsV_snoc]
  simp
theorem cellsT_made (n : Nat) : madeCells #[Value.slice none 0 0] n = cellsT [] n := by
  apply Array.ext'
  apply List.ext_getElem
  · simp [madeCells, cellsT, cellsV]
  · intro i h1 h2
    simp [madeCells, cellsT, cellsV, Nat.mod_one]
/-- 'append' of one element into a block that is known whole, where there is room. -/
theorem wpList_append_slot {P : Program} (w : World) {ops : Array Oper} {rest : List Oper} {o : Oper} {a : Act} {Q : Exit → Act → World → Prop} (hg : o.guard = none) (s x : Operand) (t : TypeId) (hop : o.op = Op.call { callee := Callee.builtin Builtin.append, args := #[s, x], argTypes := #[t, t] })
    (e : TypeId) (z : Value) (bytes : Nat) (ht : P.underlying t = some (.slice e)) (hinfo : (P.info? e).map (fun i => (i.zero, i.size, i.bytes)) = some (some z, 1, bytes)) (g n cap : Nat) (cs : Array Value) (hW : Whole w g e cs) (hs : a.eval s = .slice (some ⟨g, 0, none⟩) n cap) (hn : n < cs.size) (hcap : n + 1 ≤ cap)
    (ad : Addr) (hx : a.eval x = .slice (some ad) 1 1) (u : Value) (hu : ∀ j v, [u][j]? = some v → w.cell? (ad.add j) = some v) (h1 : u.oneCell' = true) (hK : wpList P ops Q rest (a.put o.dst (.slice (some ⟨g, 0, none⟩) (n + 1) cap)) (w.setCell ⟨g, n, none⟩ u)) :
    wpList P ops Q (o :: rest) a w := by
  refine wpList_append_room1 w hg s x t t hop e z bytes ht hinfo g 0 n cap hs _ hx 1 [u] (Src.ofSlice w ht ad 1 1 [u] rfl hu (fun v hv => by rw [List.mem_singleton] at hv; subst hv; exact h1)) hcap (fun j hj => ?_) (fun j hj => hW.frozen _) ?_
  · have : j = 0 := by simpa using hj
    subst this
    rw [hW.cell, Nat.zero_add, Nat.add_zero, Array.getElem?_eq_getElem hn]; rfl
  · have e1 : w.setCells g (0 + n) [u] = w.setCell ⟨g, n, none⟩ u := by rw [Nat.zero_add]; rfl
    rw [e1]; exact hK
theorem cellsT_size (T : List Vc) (r : Nat) : (cellsT T r).size = T.length + r := by simp [cellsT, cellsV]
/-- A twin of a vector: its own memory, with the mark behind it. -/
def VTwin (w : World) (base : Nat) (x : Vc) : Prop := x.2.1 = x.2.2.length + 1 ∧ (∃ g, x.1 = some ⟨g, 0, none⟩) ∧ w.ownsRow base 74 1 (.slice x.1 (x.2.2.length + 1) x.2.1) (x.2.2.length + 1) ((x.2.2 ++ [77]).map (Value.int .i8))
/-- A twin of a list of vectors. -/
structure TwinV (w : World) (base g r : Nat) (T : List Vc) : Prop where
  row : Whole w g 25 (cellsT T r)
  twin : ∀ x ∈ T, VTwin w base x
  apart : T.Pairwise fun x y => x.1 ≠ y.1
theorem VTwin.below {w w' : World} {base : Nat} {x : Vc} (h : VTwin w base x) (hb : Below w.heap.size w w') : VTwin w' base x := ⟨h.1, h.2.1, own_below h.2.2 hb⟩
theorem TwinV.below {w w' : World} {base g r : Nat} {T : List Vc} (h : TwinV w base g r T) (hb : Below w.heap.size w w') : TwinV w' base g r T := ⟨h.row.below hb h.row.lt, fun x hx => (h.twin x hx).below hb, h.apart⟩
theorem VTwin.base {w : World} {b b' : Nat} {x : Vc} (h : VTwin w b x) (hb : b' ≤ b) : VTwin w b' x := ⟨h.1, h.2.1, own_base h.2.2 hb⟩
theorem VTwin.rd {w : World} {base : Nat} {x : Vc} (h : VTwin w base x) : Rd .i8 w w.heap.size x.1 (x.2.2 ++ [77]) := by
  obtain ⟨A, c, hv, _, _, hrd, _⟩ := own_slice h.2.2
  injection hv with q1 q2 q3
  rw [q1]; exact hrd
theorem VTwin.own {w : World} {base : Nat} {x : Vc} (h : VTwin w base x) : VOwn w base x := by
  obtain ⟨h1, ⟨g, hg⟩, h2⟩ := h
  rw [hg] at h2
  have h3 := own_shrink (n := x.2.2.length + 1) (c := x.2.2.length) (Nat.le_succ _) h2
  unfold VOwn
  rw [hg]
  rw [Nat.mul_one, ← List.map_take, List.take_left' rfl] at h3
  exact h3
theorem TwinV.rd {w : World} {base g r : Nat} {T : List Vc} (h : TwinV w base g r T) : RdV w w.heap.size (some ⟨g, 0, none⟩) T := fun hl => by
  refine ⟨g, 0, rfl, h.row.lt, fun i hi => ⟨?_, ?_⟩⟩
  · rw [Nat.zero_add, h.row.cell i]
    have e : T[i]? = some ((T[i]?.getD vNil).1, (T[i]?.getD vNil).2.1, (T[i]?.getD vNil).2.2) := by simp [List.getElem?_eq_getElem hi]
    exact cellsT_at e
  · have := vown_rd (h.twin T[i] (List.getElem_mem hi)).own
    simpa [List.getElem?_eq_getElem hi] using this
set_option maxRecDepth 100000 in
set_option maxHeartbeats 2000000 in
theorem twinVecs_any (A : Option Addr) (c : Nat) (L : List Vc) (n : Nat) (hn : n = L.length) (w : World) (hx : RdV w w.heap.size A L) (hl : L.length ≤ 20000) (hv : ∀ v ∈ vecs L, v.length ≤ 20000) :
    Calls Tryz.prog 25 #[.slice A n c] w fun e w' => e = .returned (.slice (some ⟨w.heap.size, 0, none⟩) n (n + 2)) ∧ (∃ T, TwinV w' w.heap.size w.heap.size 2 T ∧ vecs T = vecs L) ∧ Below w.heap.size w w' := by
  subst hn
  have HV := Lib.hid hv
  have hmk : ∀ W : World, (Instr.makeSlice 62 (.int .i64 0) (.int .i64 ((L.length : Int) + 2))).run Tryz.prog W = .ok (.slice (some ⟨W.heap.size, 0, none⟩) 0 (L.length + 2)) (W.alloc (.cells (cellsT [] (L.length + 2)) 25)) := fun W => by
    have := run_make_room (P := Tryz.prog) 62 25 (.slice none 0 0) 24 Tryz.underlying62 Tryz.info25v (by rfl) .i64 .i64 (L.length + 2) (by omega) (by omega) W
    rw [cellsT_made] at this
    exact this
  have tw0 : TwinV (w.alloc (.cells (cellsT [] (L.length + 2)) 25)) w.heap.size w.heap.size (L.length + 2) [] := ⟨Whole.new w 25 _, fun x hx => by simp at hx, List.Pairwise.nil⟩
  have hB0 : Below w.heap.size w (w.alloc (.cells (cellsT [] (L.length + 2)) 25)) := below_one (Below.refl _ _) _
  clear hv
  go_enter Tryz.func25, Tryz.ntmps25
  go_wp2
  clear hmk
  obtain ⟨W0, eW⟩ : ∃ W0, w.alloc (.cells (cellsT [] (L.length + 2)) 25) = W0 := ⟨_, rfl⟩
  rw [eW] at tw0 hB0 ⊢
  clear eW
  go_loopw [3, 4] (fun v i wr => ∃ k : Nat, k ≤ L.length ∧ i = .int .i64 k ∧ v = .slice (some ⟨w.heap.size, 0, none⟩) k (L.length + 2) ∧ ∃ T : List Vc, T.length = k ∧ TwinV wr w.heap.size w.heap.size (L.length + 2 - k) T ∧ Hid (vecs T = (vecs L).take k) ∧ Below w.heap.size w wr) (fun _ i _ => L.length - (intOf i).toNat)
  case atStart => exact ⟨0, by omega, rfl, rfl, [], rfl, tw0, rfl, hB0⟩
  case round =>
    clear tw0 hB0
    obtain ⟨k, hk, rfl, rfl, T, rfl, hT, hR, hB⟩ := hrel
    by_cases hlt : T.length < L.length
    · obtain ⟨b, off, a1, c1, v1, rfl, hBk, hck, hrd, hv1⟩ := hx.at_ hlt
      have r1 : wr.cell? ⟨b, off + T.length, none⟩ = some (.slice a1 v1.length c1) := (hB.cell (p := ⟨b, off + T.length, none⟩) hBk).trans hck
      have hvl := HV.out v1 (List.mem_of_getElem? (vecs_at hv1.out))
      have TW := Lib.hid (twinInt8s_any a1 c1 v1 _ rfl wr ((hrd.below hB).more hB.size) (by omega))
      have TV := Lib.hid (take_vecs hv1.out)
      have hsz := hB.size
      obtain ⟨r0, hr0⟩ : ∃ r0, L.length + 2 - T.length = r0 + 1 := ⟨L.length + 1 - T.length, by omega⟩
      have hr1 : L.length + 2 - (T.length + 1) = r0 := by omega
      rw [hr0] at hT
      have HR0 := Lib.hid hr1
      clear hr0 hr1 hck hrd hv1
      go_wp2_with (first
        | (go_at_call 8; refine TW.out.mono ?_; rintro e w1 ⟨rfl, hb1, hown1⟩
           have hT1 := hT.below hb1
           have hW2 := hT1.row.alloc (.cells #[.slice (some ⟨wr.heap.size, 0, none⟩) v1.length (v1.length + 1)] 25)
           have hs1 := hb1.size)
        | (at_builtin; refine wpList_append_slot _ rfl (.tmp 15) (.tmp 21) 62 rfl 25 (.slice none 0 0) 24 Tryz.underlying62 Tryz.info25v w.heap.size T.length (L.length + 2) _ hW2 rfl (by rw [cellsT_size]; omega) (by omega) ⟨w1.heap.size, 0, none⟩ rfl (.slice (some ⟨wr.heap.size, 0, none⟩) v1.length (v1.length + 1)) (cell_one_new _ _ _) (by simp [Value.oneCell']) ?_))
      have hx1 : VTwin w1 w.heap.size (some ⟨wr.heap.size, 0, none⟩, v1.length + 1, v1) := ⟨rfl, ⟨_, rfl⟩, own_base hown1 hsz⟩
      have hset := hW2.set T.length (.slice (some ⟨wr.heap.size, 0, none⟩) v1.length (v1.length + 1))
      rw [cellsT_set T r0 (some ⟨wr.heap.size, 0, none⟩, v1.length + 1, v1)] at hset
      have far : ∀ x, VTwin w1 w.heap.size x → VTwin ((w1.alloc (.cells #[.slice (some ⟨wr.heap.size, 0, none⟩) v1.length (v1.length + 1)] 25)).setCell ⟨w.heap.size, T.length, none⟩ (.slice (some ⟨wr.heap.size, 0, none⟩) v1.length (v1.length + 1))) w.heap.size x :=
        fun x h => ⟨h.1, h.2.1, own_far (h.2.2.alloc _) hW2 (by decide) _ _⟩
      have hT2 : TwinV ((w1.alloc (.cells #[.slice (some ⟨wr.heap.size, 0, none⟩) v1.length (v1.length + 1)] 25)).setCell ⟨w.heap.size, T.length, none⟩ (.slice (some ⟨wr.heap.size, 0, none⟩) v1.length (v1.length + 1))) w.heap.size w.heap.size r0 (T ++ [(some ⟨wr.heap.size, 0, none⟩, v1.length + 1, v1)]) := by
        refine ⟨hset, fun x hx => ?_, ?_⟩
        · rcases List.mem_append.1 hx with h1 | h1
          · exact far x (hT1.twin x h1)
          · rw [List.mem_singleton] at h1; subst h1; exact far _ hx1
        · refine List.pairwise_append.2 ⟨hT.apart, by simp, fun x hx y hy => ?_⟩
          rw [List.mem_singleton] at hy
          subst hy
          obtain ⟨_, ⟨gx, hgx⟩, hox⟩ := hT.twin x hx
          intro e2
          rw [hgx] at e2 hox
          injection e2 with e2
          injection e2 with e2
          have := (hox.lt gx rfl).2
          omega
      have hB3 := ((hB.trans (hb1.mono hsz)).alloc (by omega) (.cells #[.slice (some ⟨wr.heap.size, 0, none⟩) v1.length (v1.length + 1)] 25)).setCell (p := ⟨w.heap.size, T.length, none⟩) (Nat.le_refl _) (.slice (some ⟨wr.heap.size, 0, none⟩) v1.length (v1.length + 1))
      go_roundw
      case rel => exact ⟨T.length + 1, by omega, by go_num, rfl, T ++ [(some ⟨wr.heap.size, 0, none⟩, v1.length + 1, v1)], by simp, by rw [HR0.out]; exact hT2, Lib.hid (by rw [vecs_snoc, hR.out, TV.out]), hB3⟩
      case measure => simp [intOf]; omega
    · have e : T.length = L.length := by omega
      have hR2 := hR.out
      rw [e, List.take_of_length_le (by rw [vecs_len]; exact Nat.le_refl _)] at hR2
      have HR2 := Lib.hid hR2
      rw [show L.length + 2 - T.length = 2 by omega] at hT
      rw [e]
      clear hR hR2 hlt hk e
      go_wp2
      go_ret
      exact ⟨rfl, ⟨T, hT, HR2.out⟩, hB⟩
/-- A vector that was handed in: its room. -/
def RoomOk (L : List Vc) : Prop := ∀ x ∈ L, x.2.2.length ≤ x.2.1 ∧ x.2.1 ≤ 9223372036854775807
set_option maxRecDepth 100000 in
set_option maxHeartbeats 2000000 in
theorem leftVecs_any (g base : Nat) (T : List Vc) (A : Option Addr) (c : Nat) (L : List Vc) (n : Nat) (hn : n = L.length) (w : World) (hT : TwinV w base g 2 T) (hv : vecs T = vecs L) (hx : RdV w w.heap.size A L) (hr : RoomOk L) (hl : L.length ≤ 20000) (hvl : ∀ v ∈ vecs L, v.length ≤ 20000) :
    Calls Tryz.prog 29 #[.slice (some ⟨g, 0, none⟩) n (n + 2), .slice A n c] w fun e w' => e = .returned (.bool true) ∧ ∃ nq, w' = w.drewN nq := by
  subst hn
  have hTl : T.length = L.length := by rw [← vecs_len T, hv, vecs_len]
  have HT := Lib.hid hT
  have HV := Lib.hid hv
  have HR := Lib.hid hr
  have HVL := Lib.hid hvl
  have HTL := Lib.hid hTl
  clear hT hv hr hvl hTl
  go_enter Tryz.func29, Tryz.ntmps29
  go_wp2
  go_loopw [5] (fun i wr => ∃ k nq : Nat, k ≤ L.length ∧ i = .int .i64 k ∧ Hid (wr = w.drewN nq)) (fun i _ => L.length - (intOf i).toNat)
  case atStart => exact ⟨0, 0, by omega, rfl, rfl⟩
  case round =>
    obtain ⟨k, nq0, hk, rfl, hwr⟩ := hrel
    by_cases hlt : k < L.length
    · have hx' : RdV wr w.heap.size A L := by rw [hwr.out]; exact hx.below (below_drewN (Below.refl _ w) nq0)
      obtain ⟨b, off, a1, c1, v1, rfl, hBk, hck, hrd, hv1⟩ := hx'.at_ hlt
      have hkt : k < T.length := by rw [HTL.out]; exact hlt
      have hT' : TwinV wr base g 2 T := by rw [hwr.out]; exact HT.out.below (below_drewN (Below.refl _ w) nq0)
      have tw := hT'.twin T[k] (List.getElem_mem hkt)
      have HTK := Lib.hid (List.getElem?_eq_getElem hkt)
      have tv : (T[k]).2.2 = v1 := by
        have h1 := vecs_vAt hv1.out
        rw [← HV.out] at h1
        unfold vAt vecs at h1
        rw [List.getElem?_map, List.getElem?_eq_getElem hkt] at h1
        exact h1
      obtain ⟨⟨ta, tc, v2⟩, ex⟩ : ∃ x, T[k] = x := ⟨_, rfl⟩
      rw [ex] at tw tv HTK
      have tv' : v2 = v1 := tv
      subst tv'
      have htc : tc = v2.length + 1 := tw.1
      subst htc
      have q1 : wr.cell? ⟨g, k, none⟩ = some (.slice ta v2.length (v2.length + 1)) := (hT'.row.cell k).trans (cellsT_at HTK.out)
      have hvl2 := HVL.out v2 (List.mem_of_getElem? (vecs_at hv1.out))
      have hro := HR.out _ (List.mem_of_getElem? hv1.out)
      have hsz : wr.heap.size = w.heap.size := by rw [hwr.out]; rfl
      have LE := Lib.hid (fun q => leftInt8s_any ta a1 (v2.length + 1) c1 v2 _ rfl (wr.drewN q) w.heap.size (hrd.below (below_drewN (Below.refl _ wr) q)) (by have h1 := tw.rd; rw [hsz] at h1; exact h1.below (below_drewN (Below.refl _ wr) q)) hro.1 (by omega) ⟨hro.2, by omega⟩ (by omega))
      have g1 : (0 : Int) ≤ (k : Int) := by omega
      have g2 : (k : Int) < (L.length : Int) := by omega
      clear hx' hT' tw tv hro hrd hv1 ex HTK hsz
      go_wp2
      go_quiet ((go_at_call 18; with_reducible exact Calls.quiet_of (LE.out _)))
      go_wp2
      go_roundw
      case rel => exact ⟨k + 1, _, by omega, by go_num, Lib.hid (by rw [hwr.out, World.drewN_drewN])⟩
      case measure => simp [intOf]; omega
    · obtain rfl : k = L.length := by omega
      have hT' : TwinV wr base g 2 T := by rw [hwr.out]; exact HT.out.below (below_drewN (Below.refl _ w) nq0)
      have free : ∀ q, q < 2 → wr.cell? ⟨g, L.length + q, none⟩ = some (.slice none 0 0) := fun q hq => by
        have := (hT'.row.cell (T.length + q)).trans (cellsT_free hq)
        rw [HTL.out] at this; exact this
      have HF := Lib.hid free
      clear free hT'
      go_wp2
      go_loop [7] (fun i => ∃ q : Nat, q ≤ 2 ∧ i = .int .i64 ((L.length + q : Nat) : Int)) (fun i => L.length + 2 - (intOf i).toNat)
      case atStart => exact ⟨0, by omega, rfl⟩
      case round =>
        obtain ⟨q, hq, rfl⟩ := hrel
        by_cases hq2 : q < 2
        · have f := HF.out q hq2
          obtain ⟨z, ez⟩ : ∃ z, L.length + q = z := ⟨_, rfl⟩
          rw [ez] at f ⊢
          have hz : z < L.length + 2 := by omega
          have HZ := Lib.hid ez
          clear ez
          go_wp2
          go_round
          case rel => exact ⟨q + 1, by omega, by have := HZ.out; go_num⟩
          case measure => simp [intOf]; omega
        · obtain rfl : q = 2 := by omega
          go_wp2
          go_ret
          exact ⟨rfl, nq0, hwr.out⟩
end Go.Proofs.YthbimjkcpmffcaaGreat
/- Words on lists of vectors as arguments and answers, and the statements' own helpers on them. -/
namespace Go.Proofs.YthbimjkcpmffcaaGreat
open Go.RowKit
set_option linter.unusedVariables false
def errE (b : Bool) : Int := if b then 0 else 1
def nearA (ms : List (List Int)) (v : List Int) : Int := if mayM ms [v] then ((nearestI ms v : Nat) : Int) else 0
def costA (ms vs : List (List Int)) : Int := if mayM ms vs then costL ms vs else 0
def stepA (ms vs : List (List Int)) : List (List Int) := if mayM ms vs then stepL ms vs else []
/-- A list of vectors as an argument. -/
structure VArg (w : World) (A : Option Addr) (L : List Vc) : Prop where
  rd : RdV w w.heap.size A L
  len : L.length ≤ 1048576
  vec : ∀ v ∈ vecs L, v.length ≤ 1048576
  b8 : B8 (vecs L)
theorem VArg.below {w w' : World} {A : Option Addr} {L : List Vc} (h : VArg w A L) (hb : Below w.heap.size w w') : VArg w' A L := ⟨(h.rd.below hb).more hb.size, h.len, h.vec, h.b8⟩
/-- A vector as an argument. -/
structure NArg (w : World) (B : Option Addr) (v : List Int) : Prop where
  rd : Rd .i8 w w.heap.size B v
  len : v.length ≤ 1048576
  b8 : ∀ x ∈ v, -128 ≤ x ∧ x ≤ 127
theorem NArg.below {w w' : World} {B : Option Addr} {v : List Int} (h : NArg w B v) (hb : Below w.heap.size w w') : NArg w' B v := ⟨(h.rd.below hb).more hb.size, h.len, h.b8⟩
/-- One vector in a row of its own. -/
theorem one_rd {w : World} {B : Option Addr} {d : Nat} {v : List Int} (t : TypeId) (h : Rd .i8 w w.heap.size B v) : RdV (w.alloc (.cells #[.slice B v.length d] t)) (w.heap.size + 1) (some ⟨w.heap.size, 0, none⟩) [(B, d, v)] := fun _ => by
  refine ⟨w.heap.size, 0, rfl, by omega, fun i hi => ?_⟩
  obtain rfl : i = 0 := by simpa using hi
  refine ⟨(Whole.new w t #[.slice B v.length d]).cell 0, ?_⟩
  exact (h.below ((Below.refl _ w).alloc (Nat.le_refl _) _)).more (by omega)
theorem far_bd {xs ys : List Int} (hx : xs.length ≤ 64) (bx : ∀ x ∈ xs, -128 ≤ x ∧ x ≤ 127) (bY : ∀ x ∈ ys, -128 ≤ x ∧ x ≤ 127) : 0 ≤ far xs ys ∧ far xs ys ≤ 4161600 := by
  have h := farL_bd (xs.zip ys) (zip_bd bx bY)
  have hl : (xs.zip ys).length ≤ 64 := by rw [List.length_zip]; omega
  unfold far
  omega
/-- The vectors of a list lie apart. -/
def ApartL (L : List Vc) : Prop := L.Pairwise fun x y => (Value.slice x.1 x.2.2.length x.2.1).ownBlock = none ∨ (Value.slice x.1 x.2.2.length x.2.1).ownBlock ≠ (Value.slice y.1 y.2.2.length y.2.1).ownBlock
/-- An answer that is a list of vectors, and an errno. -/
def VAns (w : World) (ws : List (List Int)) (E : Int) (e : Ending) (w' : World) : Prop :=
  ∃ A c L, e = .returned (.tuple #[.slice A (L : List Vc).length c, .int .i64 E]) ∧ OwnV w' w.heap.size A c L ∧ ApartL L ∧ vecs L = ws ∧ Below w.heap.size w w'
def mayTB (vs : List (List Int)) (k r : Int) : Bool := decide (mayB vs = true ∧ 1 ≤ k ∧ k ≤ 64 ∧ k ≤ vs.length ∧ 0 ≤ r ∧ r ≤ 100)
theorem mayTB_yes {vs : List (List Int)} {k r : Int} (h : mayTB vs k r = true) : mayT vs k r := by simpa [mayTB, mayT] using h
theorem mayTB_no {vs : List (List Int)} {k r : Int} (h : mayTB vs k r = false) : ¬ mayT vs k r := by simpa [mayTB, mayT] using h
def trainA (vs : List (List Int)) (k r : Int) (s : Nat) : List (List Int) := if mayTB vs k r then stepsL vs r.toNat (firstL vs s k.toNat) else []
theorem argOf {w : World} {base : Nat} {A : Option Addr} {c : Nat} {L : List Vc} {ws : List (List Int)} (o : OwnV w base A c L) (v : vecs L = ws) (h : ws.length ≤ 2048) (hv : ∀ v ∈ ws, v.length ≤ 64) (b : B8 ws) : VArg w A L :=
  ⟨o.rd, by rw [← vecs_len, v]; omega, fun u hu => by rw [v] at hu; have := hv u hu; omega, by rw [v]; exact b⟩
theorem same_arg (A : Option Addr) (c : Nat) (L : List Vc) (B : Option Addr) (d : Nat) (M : List Vc) (w : World) (hx : VArg w A L) (hy : VArg w B M) : Calls Tryz.prog 88 #[.slice A L.length c, .slice B M.length d] w fun e w' => e = .returned (.bool (decide (vecs L = vecs M))) ∧ Below w.heap.size w w' :=
  (sameVecs_any A c L _ rfl B d M _ rfl w _ hx.rd hy.rd (by have := hx.len; omega) (by have := hy.len; omega) (fun v hv => by have := hx.vec v hv; omega) (fun v hv => by have := hy.vec v hv; omega)).mono fun e w' ⟨h1, nq, h2⟩ => ⟨h1, by rw [h2]; exact below_drewN (Below.refl _ _) nq⟩
/-- Lists of vectors that were handed in. -/
structure Given (w : World) (A : Option Addr) (L : List Vc) : Prop where
  rd : RdV w w.heap.size A L
  len : L.length ≤ 140737488355328
  vec : ∀ v ∈ vecs L, v.length ≤ 140737488355328
  b8 : B8 (vecs L)
theorem Given.below {w w' : World} {A : Option Addr} {L : List Vc} (h : Given w A L) (hb : Below w.heap.size w w') : Given w' A L := ⟨(h.rd.below hb).more hb.size, h.len, h.vec, h.b8⟩
theorem Given.arg {w : World} {A : Option Addr} {L : List Vc} (h : Given w A L) (s : Small L) : VArg w A L := ⟨h.rd, by have := s.len; omega, fun v hv => by have := s.vec hv; omega, h.b8⟩
theorem Given.garg {w : World} {A : Option Addr} {c : Nat} {L : List Vc} {g i : Nat} (h : Given w A L) (hc : w.cell? ⟨g, i, none⟩ = some (.slice A L.length c)) : GArg w w.heap.size g i (A, c, L) := ⟨hc, h.rd, h.len, h.vec⟩
theorem left_arg {w : World} {g : Nat} {T : List Vc} {A : Option Addr} {c : Nat} {L : List Vc} (hT : TwinV w g g 2 T) (hv : vecs T = vecs L) (hx : Given w A L) (hr : RoomOk L) (s : Small L) :
    Calls Tryz.prog 29 #[.slice (some ⟨g, 0, none⟩) L.length (L.length + 2), .slice A L.length c] w fun e w' => e = .returned (.bool true) ∧ Below w.heap.size w w' :=
  (leftVecs_any g g T A c L _ rfl w hT hv hx.rd hr s.len (fun v h => s.vec h)).mono fun e w' ⟨h1, nq, h2⟩ => ⟨h1, by rw [h2]; exact below_drewN (Below.refl _ _) nq⟩
theorem twin_arg {w : World} {A : Option Addr} {c : Nat} {L : List Vc} (hx : Given w A L) (s : Small L) :
    Calls Tryz.prog 25 #[.slice A L.length c] w fun e w' => e = .returned (.slice (some ⟨w.heap.size, 0, none⟩) L.length (L.length + 2)) ∧ (∃ T, TwinV w' w.heap.size w.heap.size 2 T ∧ vecs T = vecs L ∧ T.length = L.length) ∧ Below w.heap.size w w' :=
  (twinVecs_any A c L _ rfl w hx.rd s.len (fun v h => s.vec h)).mono fun e w' ⟨h1, ⟨T, h2, h3⟩, h4⟩ => ⟨h1, ⟨T, h2, h3, by rw [← vecs_len, h3, vecs_len]⟩, h4⟩
end Go.Proofs.YthbimjkcpmffcaaGreat
