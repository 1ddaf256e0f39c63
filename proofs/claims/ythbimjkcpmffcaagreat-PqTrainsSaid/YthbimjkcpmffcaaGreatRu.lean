/- Several texts in one. -/
import Derived.Test.YthbimjkcpmffcaaGreatB8
import Derived.Test.YthbimjkcpmffcaaGreatSe
import Derived.Test.YthbimjkcpmffcaaGreatNa
import Derived.Test.YthbimjkcpmffcaaGreatNl
/- The walks of the statements' own helpers on lists of int64: Twin, Left, Same. -/
namespace Go.Proofs.YthbimjkcpmffcaaGreat
open Go.RowKit
set_option linter.unusedVariables false
theorem Tryz.info2 : (Tryz.prog.info? 2).map (fun i => (i.zero, i.size, i.bytes)) = some (some (.int .i64 0), 1, 8) := by kernel_rfl
set_option maxHeartbeats 400000 in
theorem same64_any (A B : Option Addr) (c d : Nat) (xs ys : List Int) (w : World) (D : Nat) (hx : Rd .i64 w D A xs) (hy : Rd .i64 w D B ys) (hxl : xs.length ≤ 140737488355328) (hyl : ys.length ≤ 140737488355328) :
    Calls Tryz.prog 37 #[.slice A xs.length c, .slice B ys.length d] w fun e w' => e = .returned (.bool (eqB xs ys)) ∧ ∃ nq, w' = w.drewN nq := by
  by_cases hl : ys.length = xs.length
  · have HL := Lib.hid hl
    rw [hl]
    clear hl
    go_enter Tryz.func37, Tryz.ntmps37
    go_wp2
    go_loopw [5] (fun i wr => ∃ k nq : Nat, k ≤ xs.length ∧ i = .int .i64 k ∧ wr = w.drewN nq ∧ Hid (∀ j, j < k → xs[j]? = ys[j]?)) (fun i _ => xs.length - (intOf i).toNat)
    case atStart => exact ⟨0, 0, by omega, rfl, rfl, (fun j hj => absurd hj (Nat.not_lt_zero _) : ∀ j, j < 0 → xs[j]? = ys[j]?)⟩
    case round =>
      obtain ⟨k, nq, hk, rfl, rfl, HK⟩ := hrel
      by_cases hlt : k < xs.length
      · have hlt' : k < ys.length := by have := HL.out; omega
        obtain ⟨b, off, x, rfl, hbs, hcx, hvx⟩ := hx.at_ hlt
        obtain ⟨b', off', y, rfl, hbs', hcy, hvy⟩ := hy.at_ (i := k) hlt'
        have h1 : (0 : Int) ≤ (k : Int) := by omega
        have h2 : (k : Int) < (xs.length : Int) := by omega
        have ex : xs[k]? = some x := by rw [← hvx.out, List.getElem?_eq_getElem hlt]; rfl
        have ey : ys[k]? = some y := by rw [← hvy.out, List.getElem?_eq_getElem hlt']; rfl
        by_cases he : x = y
        · subst he
          have HN : Hid (∀ j, j < k + 1 → xs[j]? = ys[j]?) := fun j hj => by
            rcases Nat.lt_or_ge j k with h | h
            · exact HK.out j h
            · obtain rfl : j = k := by omega
              rw [ex, ey]
          clear ex ey hvx hvy
          have ne : (x != x) = false := by simp
          go_wp2
          go_quiet (fail)
          go_wp2
          go_roundw
          case rel => exact ⟨k + 1, _, by omega, by go_num, rfl, HN⟩
          case measure => simp [intOf]; omega
        · have E := Lib.hid (show eqB xs ys = false from decide_eq_false (fun h => he (by rw [h, ey] at ex; simpa using ex.symm)))
          have ne : (x != y) = true := by simpa using he
          clear ex ey hvx hvy he
          go_wp2
          go_quiet (fail)
          go_wp2
          go_ret
          exact ⟨retb E.out.symm, _, drewN_drewN' _ _ _⟩
      · have E := Lib.hid (show eqB xs ys = true from decide_eq_true (take_ext HL.out (fun j hj => HK.out j (by omega))))
        go_wp2
        go_ret
        exact ⟨retb E.out.symm, nq, rfl⟩
  · have ne : ((xs.length : Int) != (ys.length : Int)) = true := by simp; omega
    have E := Lib.hid (show eqB xs ys = false from decide_eq_false (fun h => hl (by rw [h])))
    clear hl
    go_enter Tryz.func37, Tryz.ntmps37
    go_wp2
    go_ret
    exact ⟨retb E.out.symm, 0, rfl⟩
end Go.Proofs.YthbimjkcpmffcaaGreat
/- Words on lists of lists of int64 (tables). -/
namespace Go.Proofs.YthbimjkcpmffcaaGreat
open Go.RowKit
set_option linter.unusedVariables false
/-- A slice value at A reads, in w, as the vectors L; where it has one it lies below block B, and so do they. -/
def RdT (w : World) (B : Nat) (A : Option Addr) (L : List Vc) : Prop :=
  0 < L.length → ∃ b off, A = some ⟨b, off, none⟩ ∧ b < B ∧ ∀ i, i < L.length → w.cell? ⟨b, off + i, none⟩ = some (.slice (L[i]?.getD vNil).1 (L[i]?.getD vNil).2.2.length (L[i]?.getD vNil).2.1) ∧ Rd .i64 w B (L[i]?.getD vNil).1 (L[i]?.getD vNil).2.2
theorem RdT.at_ {w : World} {B : Nat} {A : Option Addr} {L : List Vc} (h : RdT w B A L) {i : Nat} (hi : i < L.length) :
    ∃ b off a c v, A = some ⟨b, off, none⟩ ∧ b < B ∧ w.cell? ⟨b, off + i, none⟩ = some (.slice a v.length c) ∧ Rd .i64 w B a v ∧ Hid (L[i]? = some (a, c, v)) := by
  obtain ⟨b, off, hA, hB, hc⟩ := h (by omega)
  refine ⟨b, off, (L[i]?.getD vNil).1, (L[i]?.getD vNil).2.1, (L[i]?.getD vNil).2.2, hA, hB, (hc i hi).1, (hc i hi).2, (by simp [List.getElem?_eq_getElem hi] : L[i]? = some ((L[i]?.getD vNil).1, (L[i]?.getD vNil).2.1, (L[i]?.getD vNil).2.2))⟩
theorem RdT.below {w w' : World} {B : Nat} {A : Option Addr} {L : List Vc} (h : RdT w B A L) (hb : Below B w w') : RdT w' B A L := fun hl => by
  obtain ⟨b, off, hA, hB, hc⟩ := h hl
  exact ⟨b, off, hA, hB, fun i hi => ⟨(hb.cell (p := ⟨b, off + i, none⟩) hB).trans (hc i hi).1, (hc i hi).2.below hb⟩⟩
theorem RdT.more {w : World} {B B' : Nat} {A : Option Addr} {L : List Vc} (h : RdT w B A L) (hB : B ≤ B') : RdT w B' A L := fun hl => by
  obtain ⟨b, off, hA, hb, hc⟩ := h hl
  exact ⟨b, off, hA, by omega, fun i hi => ⟨(hc i hi).1, (hc i hi).2.more hB⟩⟩
/-- A vector in memory of the call's own. -/
def TOwn (w : World) (base : Nat) (x : Vc) : Prop := w.ownsRow base 2 1 (.slice x.1 x.2.2.length x.2.1) x.2.2.length (x.2.2.map (Value.int .i64))
/-- A list of vectors, all in memory of the call's own. -/
def OwnT (w : World) (base : Nat) (A : Option Addr) (c : Nat) (L : List Vc) : Prop := w.ownsRow base 80 1 (.slice A L.length c) L.length (cellsV L) ∧ ∀ x ∈ L, TOwn w base x
theorem town_rd {w : World} {base : Nat} {x : Vc} (h : TOwn w base x) : Rd .i64 w w.heap.size x.1 x.2.2 := by
  obtain ⟨A, c, hv, _, _, hrd, _⟩ := own_slice h
  injection hv with q1 q2 q3
  rw [q1]; exact hrd
/-- A row of vectors reads as such, wherever they lie. -/
theorem row_rdT {w : World} {base : Nat} {A : Option Addr} {c : Nat} {L : List Vc} (h : w.ownsRow base 80 1 (.slice A L.length c) L.length (cellsV L)) (hr : ∀ x ∈ L, Rd .i64 w w.heap.size x.1 x.2.2) : RdT w w.heap.size A L := fun hl => by
  obtain ⟨g, rfl, _⟩ := own_some h hl
  refine ⟨g, 0, rfl, (h.lt g rfl).2, fun i hi => ⟨?_, ?_⟩⟩
  · rw [Nat.zero_add, h.cellAt i (by omega)]
    simp [cellsV, List.getElem?_eq_getElem hi]
  · have := hr L[i] (List.getElem_mem hi)
    simpa [List.getElem?_eq_getElem hi] using this
theorem OwnT.rd {w : World} {base : Nat} {A : Option Addr} {c : Nat} {L : List Vc} (h : OwnT w base A c L) : RdT w w.heap.size A L := row_rdT h.1 (fun x hx => town_rd (h.2 x hx))
theorem OwnT.below {w w' : World} {base : Nat} {A : Option Addr} {c : Nat} {L : List Vc} (h : OwnT w base A c L) (hb : Below w.heap.size w w') : OwnT w' base A c L := ⟨own_below h.1 hb, fun x hx => own_below (h.2 x hx) hb⟩
theorem OwnT.nil (w : World) (base : Nat) : OwnT w base none 0 [] := ⟨own_nil_row _ _ _, fun x hx => by simp at hx⟩
theorem TOwn.grown {w w' : World} {base b2 n : Nat} {x : Vc} {v : Value} {xs : List Value} (h : TOwn w base x) (ho : w.ownsRow b2 80 1 v n xs) (hg : w.grownBy w' v.ownBlock) : TOwn w' base x := by
  refine h.kept hg ?_
  rcases h.2 with ⟨hv, _⟩ | ⟨g, cap, cur, hv, _, hc, _⟩
  · rw [hv]; exact .inl rfl
  · rw [hv]
    rcases ho.2 with ⟨rfl, _⟩ | ⟨g', cap', cur', rfl, _, hc', _⟩
    · exact .inr (by simp [Value.ownBlock])
    · refine .inr fun e => ?_
      have e2 : g = g' := by simpa [Value.ownBlock] using e
      subst e2
      rw [hc] at hc'
      simp at hc'
theorem OwnT.snoc {W w3 : World} {base : Nat} {A : Option Addr} {c : Nat} {L : List Vc} {x : Vc} {v : Value} {o : Obj} (h : OwnT W base A c L) (hx : TOwn W base x) (hn : w3.ownsRow base 80 1 v (L.length + 1) (cellsV L ++ [.slice x.1 x.2.2.length x.2.1])) (hg : (W.alloc o).grownBy w3 (Value.slice A L.length c).ownBlock) :
    ∃ A2 c2, v = .slice A2 (L ++ [x]).length c2 ∧ OwnT w3 base A2 c2 (L ++ [x]) := by
  obtain ⟨A2, m, c2, rfl⟩ := own_form hn
  obtain rfl := own_len hn
  rw [cellsV_snoc] at hn
  refine ⟨A2, c2, by simp, ⟨by simpa using hn, fun y hy => ?_⟩⟩
  rcases List.mem_append.1 hy with h1 | h1
  · exact TOwn.grown (x := y) ((h.2 y h1).alloc o) (h.1.alloc o) hg
  · rw [List.mem_singleton] at h1
    subst h1
    exact TOwn.grown (x := y) (hx.alloc o) (h.1.alloc o) hg
theorem OwnT.base {w : World} {b b' : Nat} {A : Option Addr} {c : Nat} {L : List Vc} (h : OwnT w b A c L) (hb : b' ≤ b) : OwnT w b' A c L := ⟨own_base h.1 hb, fun x hx => own_base (h.2 x hx) hb⟩
theorem Tryz.info80v : (Tryz.prog.info? 80).map (fun i => (i.zero, i.size, i.bytes)) = some (some (.slice none 0 0), 1, 24) := by kernel_rfl
end Go.Proofs.YthbimjkcpmffcaaGreat
/- The walks of the statements' own helpers on tables: TwinTables, LeftTables, SameTables. -/
namespace Go.Proofs.YthbimjkcpmffcaaGreat
open Go.RowKit
set_option linter.unusedVariables false
/-- A twin of a vector: its own memory, with the mark behind it. -/
def TTwin (w : World) (base : Nat) (x : Vc) : Prop := x.2.1 = x.2.2.length + 1 ∧ (∃ g, x.1 = some ⟨g, 0, none⟩) ∧ w.ownsRow base 2 1 (.slice x.1 (x.2.2.length + 1) x.2.1) (x.2.2.length + 1) ((x.2.2 ++ [77]).map (Value.int .i64))
/-- A twin of a list of vectors. -/
structure TwinT (w : World) (base g r : Nat) (T : List Vc) : Prop where
  row : Whole w g 80 (cellsT T r)
  twin : ∀ x ∈ T, TTwin w base x
  apart : T.Pairwise fun x y => x.1 ≠ y.1
theorem TTwin.below {w w' : World} {base : Nat} {x : Vc} (h : TTwin w base x) (hb : Below w.heap.size w w') : TTwin w' base x := ⟨h.1, h.2.1, own_below h.2.2 hb⟩
theorem TwinT.below {w w' : World} {base g r : Nat} {T : List Vc} (h : TwinT w base g r T) (hb : Below w.heap.size w w') : TwinT w' base g r T := ⟨h.row.below hb h.row.lt, fun x hx => (h.twin x hx).below hb, h.apart⟩
theorem TTwin.base {w : World} {b b' : Nat} {x : Vc} (h : TTwin w b x) (hb : b' ≤ b) : TTwin w b' x := ⟨h.1, h.2.1, own_base h.2.2 hb⟩
theorem TTwin.rd {w : World} {base : Nat} {x : Vc} (h : TTwin w base x) : Rd .i64 w w.heap.size x.1 (x.2.2 ++ [77]) := by
  obtain ⟨A, c, hv, _, _, hrd, _⟩ := own_slice h.2.2
  injection hv with q1 q2 q3
  rw [q1]; exact hrd
theorem TTwin.own {w : World} {base : Nat} {x : Vc} (h : TTwin w base x) : TOwn w base x := by
  obtain ⟨h1, ⟨g, hg⟩, h2⟩ := h
  rw [hg] at h2
  have h3 := own_shrink (n := x.2.2.length + 1) (c := x.2.2.length) (Nat.le_succ _) h2
  unfold TOwn
  rw [hg]
  rw [Nat.mul_one, ← List.map_take, List.take_left' rfl] at h3
  exact h3
theorem TwinT.rd {w : World} {base g r : Nat} {T : List Vc} (h : TwinT w base g r T) : RdT w w.heap.size (some ⟨g, 0, none⟩) T := fun hl => by
  refine ⟨g, 0, rfl, h.row.lt, fun i hi => ⟨?_, ?_⟩⟩
  · rw [Nat.zero_add, h.row.cell i]
    have e : T[i]? = some ((T[i]?.getD vNil).1, (T[i]?.getD vNil).2.1, (T[i]?.getD vNil).2.2) := by simp [List.getElem?_eq_getElem hi]
    exact cellsT_at e
  · have := town_rd (h.twin T[i] (List.getElem_mem hi)).own
    simpa [List.getElem?_eq_getElem hi] using this
set_option maxRecDepth 100000 in
set_option maxHeartbeats 1000000 in
theorem sameTabs_any (A : Option Addr) (c : Nat) (L : List Vc) (n : Nat) (hn : n = L.length) (B : Option Addr) (d : Nat) (M : List Vc) (m : Nat) (hm : m = M.length) (w : World) (D : Nat) (hx : RdT w D A L) (hy : RdT w D B M) (hl : L.length ≤ 140737488355328) (hl2 : M.length ≤ 140737488355328) (hv : ∀ v ∈ vecs L, v.length ≤ 140737488355328) (hv2 : ∀ v ∈ vecs M, v.length ≤ 140737488355328) :
    Calls Tryz.prog 14 #[.slice A n c, .slice B m d] w fun e w' => e = .returned (.bool (decide (vecs L = vecs M))) ∧ ∃ nq, w' = w.drewN nq := by
  subst hn hm
  by_cases hlen : L.length = M.length
  · have ne : ((L.length : Int) != (M.length : Int)) = false := by simp; omega
    have HL := Lib.hid hlen
    have HV := Lib.hid hv
    have HV2 := Lib.hid hv2
    clear hlen hv hv2
    go_enter Tryz.func14, Tryz.ntmps14
    go_wp2
    go_loopw [5] (fun i wr => ∃ k nq : Nat, k ≤ L.length ∧ i = .int .i64 k ∧ Hid (wr = w.drewN nq) ∧ Hid (∀ j, j < k → vAt (vecs L) j = vAt (vecs M) j)) (fun i _ => L.length - (intOf i).toNat)
    case atStart => exact ⟨0, 0, by omega, rfl, rfl, (fun j hj => absurd hj (Nat.not_lt_zero _) : ∀ j, j < 0 → vAt (vecs L) j = vAt (vecs M) j)⟩
    case round =>
      obtain ⟨k, nq0, hk, rfl, hwr, HK⟩ := hrel
      by_cases hlt : k < L.length
      · have hlt2 : k < M.length := by have := HL.out; omega
        have hx' : RdT wr D A L := by rw [hwr.out]; exact hx.below (below_drewN (Below.refl D w) nq0)
        have hy' : RdT wr D B M := by rw [hwr.out]; exact hy.below (below_drewN (Below.refl D w) nq0)
        obtain ⟨b, off, a1, c1, v1, rfl, hBk, hck, hrd, hv1⟩ := hx'.at_ hlt
        obtain ⟨b', off', a2, c2, v2, rfl, hBk', hck', hrd', hv2⟩ := hy'.at_ hlt2
        have SE := Lib.hid (fun q => same64_any a1 a2 c1 c2 v1 v2 (wr.drewN q) D (hrd.below (below_drewN (Below.refl D wr) q)) (hrd'.below (below_drewN (Below.refl D wr) q)) (HV.out v1 (List.mem_of_getElem? (vecs_at hv1.out))) (HV2.out v2 (List.mem_of_getElem? (vecs_at hv2.out))))
        have g1 : (0 : Int) ≤ (k : Int) := by omega
        have g2 : (k : Int) < (L.length : Int) := by omega
        have g3 : (k : Int) < (M.length : Int) := by omega
        clear hx' hy' hrd hrd'
        by_cases he : v1 = v2
        · have eb : eqB v1 v2 = true := decide_eq_true he
          rw [eb] at SE
          have HN : Hid (∀ j, j < k + 1 → vAt (vecs L) j = vAt (vecs M) j) := Lib.hid (fun j hj => by
            rcases Nat.lt_or_ge j k with h | h
            · exact HK.out j h
            · obtain rfl : j = k := by omega
              rw [vecs_vAt hv1.out, vecs_vAt hv2.out]; exact he)
          clear he eb hv1 hv2 HK
          go_wp2
          go_quiet ((go_at_call 37; with_reducible exact Calls.quiet_of (SE.out _)))
          go_wp2
          go_roundw
          case rel => exact ⟨k + 1, _, by omega, by go_num, Lib.hid (by rw [hwr.out, World.drewN_drewN]), HN⟩
          case measure => simp [intOf]; omega
        · have eb : eqB v1 v2 = false := decide_eq_false he
          rw [eb] at SE
          have E : Hid (decide (vecs L = vecs M) = false) := Lib.hid (decide_eq_false (fun h => he (by
            have h1 := vecs_vAt hv1.out
            rw [h, vecs_vAt hv2.out] at h1
            exact h1.symm)))
          clear he eb hv1 hv2 HK
          go_wp2
          go_quiet ((go_at_call 37; with_reducible exact Calls.quiet_of (SE.out _)))
          go_wp2
          go_ret
          exact ⟨retb E.out.symm, _, by rw [hwr.out, World.drewN_drewN]⟩
      · obtain rfl : k = L.length := by omega
        have E : Hid (decide (vecs L = vecs M) = true) := Lib.hid (decide_eq_true (vecs_ext HL.out.symm HK.out))
        clear HK
        go_wp2
        go_ret
        exact ⟨retb E.out.symm, nq0, hwr.out⟩
  · have ne : ((L.length : Int) != (M.length : Int)) = true := by simp; omega
    have E : Hid (decide (vecs L = vecs M) = false) := Lib.hid (decide_eq_false (fun h => hlen (by rw [← vecs_len L, h, vecs_len])))
    clear hlen hx hy
    go_enter Tryz.func14, Tryz.ntmps14
    go_wp2
    go_ret
    exact ⟨retb E.out.symm, 0, rfl⟩
end Go.Proofs.YthbimjkcpmffcaaGreat
