/- Several texts in one. -/
import Derived.Test.YthbimjkcpmffcaaB8
import Derived.Test.YthbimjkcpmffcaaSe
import Derived.Test.YthbimjkcpmffcaaNa
import Derived.Test.YthbimjkcpmffcaaNl
/- The walks of the statements' own helpers on lists of int64: Twin, Left, Same. -/
namespace Go.Proofs.Ythbimjkcpmffcaa
open Go.RowKit
set_option linter.unusedVariables false
theorem Try.info2 : (Try.prog.info? 2).map (fun i => (i.zero, i.size, i.bytes)) = some (some (.int .i64 0), 1, 8) := by kernel_rfl
set_option maxHeartbeats 400000 in
theorem twinInt64s_any (A : Option Addr) (c : Nat) (xs : List Int) (n : Nat) (hn : n = xs.length) (w : World) (hx : Rd .i64 w w.heap.size A xs) (hl : xs.length ≤ 17592186043000) :
    Calls Try.prog 83 #[.slice A n c] w fun e w' => e = .returned (.slice (some ⟨w.heap.size, 0, none⟩) n (n + 1)) ∧ Below w.heap.size w w' ∧
      w'.ownsRow w.heap.size 2 1 (.slice (some ⟨w.heap.size, 0, none⟩) (n + 1) (n + 1)) (n + 1) ((xs ++ [77]).map (Value.int .i64)) := by
  subst hn
  obtain ⟨i0, hi, hz0, hz1, hz2⟩ := info_parts Try.info2
  go_enter Try.func83, Try.ntmps83
  go_wp2_with (at_make; refine wpList_make_own _ rfl _ _ 57 rfl w.heap.size 2 i0 (.int .i64 0) 1 Try.underlying57 hi hz0 hz1 _ _ _ (xs.length + 1) rfl rfl (by omega) ?b2 ?b3 (Nat.le_refl _) ?_)
  case b2 => rw [hz2]; omega
  case b3 => unfold maxLen; omega
  intro w1 hown hgrow
  have hB1 : Below w.heap.size w w1 := (Below.refl _ _).grown hgrow (Nat.le_refl _) (by simp)
  clear hgrow
  go_wp2
  go_loopw [3, 4] (fun v i wr => ∃ k : Nat, k ≤ xs.length ∧ i = .int .i64 k ∧ v = .slice (some ⟨w.heap.size, 0, none⟩) k (xs.length + 1) ∧
      wr.ownsRow w.heap.size 2 1 (.slice (some ⟨w.heap.size, 0, none⟩) k (xs.length + 1)) k ((xs.take k).map (Value.int .i64)) ∧ Below w.heap.size w wr) (fun _ i _ => xs.length - (intOf i).toNat)
  case atStart => exact ⟨0, by omega, rfl, rfl, by simpa using hown, hB1⟩
  case round =>
    clear hown hB1
    obtain ⟨k, hk, rfl, rfl, hown, hB⟩ := hrel
    have hsz := hB.size
    by_cases hlt : k < xs.length
    · obtain ⟨b, off, v, rfl, hBb, hck, hv⟩ := (hx.below hB).at_ hlt
      have HS := Lib.hid (map_take (k := .i64) xs k v hlt hv.out)
      go_wp2_with (at_builtin; refine wpList_append_fits _ rfl (.tmp 15) (.tmp 20) 57 rfl w.heap.size 2 i0 1 Try.underlying57 hi hz1 w.heap.size k (xs.length + 1) _ rfl (hown.alloc _) ⟨wr.heap.size, 0, none⟩ 1 1 [.int .i64 v] rfl rfl (cell_one_new _ _ _) (by simp [Value.oneCell']) (by omega) ?_; intro w2 hown2 hg2)
      have hB2 : Below w.heap.size w w2 := (hB.alloc hsz _).grown hg2 (by simp; omega) (by simp)
      go_wp2
      go_roundw
      case rel => exact ⟨k + 1, by omega, by go_num, rfl, by rw [HS.out]; exact hown2, hB2⟩
      case measure => simp [intOf]; omega
    · obtain rfl : k = xs.length := by omega
      rw [List.take_length] at hown
      go_wp2_with (at_builtin; refine wpList_append_fits _ rfl (.tmp 22) (.tmp 23) 57 rfl w.heap.size 2 i0 1 Try.underlying57 hi hz1 w.heap.size xs.length (xs.length + 1) _ rfl (hown.alloc _) ⟨wr.heap.size, 0, none⟩ 1 1 [.int .i64 77] rfl rfl (cell_one_new _ _ _) (by simp [Value.oneCell']) (by omega) ?_; intro w2 hown2 hg2)
      have hB2 : Below w.heap.size w w2 := (hB.alloc hsz _).grown hg2 (by simp; omega) (by simp)
      go_wp2
      go_ret
      exact ⟨rfl, hB2, by simpa using hown2⟩
set_option maxHeartbeats 400000 in
theorem leftInt64s_any (T A : Option Addr) (tc c : Nat) (xs : List Int) (n : Nat) (hn : n = xs.length) (w : World) (B : Nat) (hx : Rd .i64 w B A xs) (ht : Rd .i64 w B T (xs ++ [77])) (hc : xs.length ≤ c) (htc : xs.length < tc) (hm : c ≤ 9223372036854775807 ∧ xs.length ≤ 140737488355328) (htm : tc ≤ 9223372036854775807) :
    Calls Try.prog 85 #[.slice T n tc, .slice A n c] w fun e w' => e = .returned (.bool true) ∧ ∃ nq, w' = w.drewN nq := by
  subst hn
  obtain ⟨tb, toff, v77, rfl, hBt, htk, htv⟩ := ht.at_ (i := xs.length) (by simp)
  have e77 : v77 = 77 := by rw [← htv.out]; simp
  subst e77
  clear htv
  go_enter Try.func85, Try.ntmps85
  go_wp2
  go_loopw [5] (fun i wr => ∃ k nq : Nat, k ≤ xs.length ∧ i = .int .i64 k ∧ wr = w.drewN nq) (fun i _ => xs.length - (intOf i).toNat)
  case atStart => exact ⟨0, 0, by omega, rfl, rfl⟩
  case round =>
    obtain ⟨k, nq, hk, rfl, rfl⟩ := hrel
    by_cases hlt : k < xs.length
    · obtain ⟨b, off, v, rfl, hBb, hck, hv⟩ := hx.at_ hlt
      obtain ⟨tb', toff', v', hT, _, htck, hv'⟩ := ht.at_ (i := k) (by simp; omega)
      simp only [Option.some.injEq, Addr.mk.injEq, and_true] at hT
      obtain ⟨rfl, rfl⟩ := hT
      have e : v' = v := by
        rw [← hv.out, ← hv'.out, List.getElem?_append_left hlt]
      subst e
      clear hv hv'
      have h1 : (0 : Int) ≤ (k : Int) := by omega
      have h2 : (k : Int) < (xs.length : Int) := by omega
      go_wp2
      go_quiet (fail)
      go_wp2
      go_roundw
      case rel => exact ⟨k + 1, _, by omega, by go_num, rfl⟩
      case measure => simp [intOf]; omega
    · obtain rfl : k = xs.length := by omega
      go_wp2
      go_ret
      exact ⟨rfl, _, rfl⟩
end Go.Proofs.Ythbimjkcpmffcaa
/- Words on lists of lists of int64 (tables). -/
namespace Go.Proofs.Ythbimjkcpmffcaa
open Go.RowKit
set_option linter.unusedVariables false
/-- A slice value at A reads, in w, as the vectors L; where it has one it lies below block B, and so do they. -/
def RdT (w : World) (B : Nat) (A : Option Addr) (L : List Vc) : Prop :=
  0 < L.length → ∃ b off, A = some ⟨b, off, none⟩ ∧ b < B ∧ ∀ i, i < L.length → w.cell? ⟨b, off + i, none⟩ = some (.slice (L[i]?.getD vNil).1 (L[i]?.getD vNil).2.2.length (L[i]?.getD vNil).2.1) ∧ Rd .i64 w B (L[i]?.getD vNil).1 (L[i]?.getD vNil).2.2
theorem RdT.at_ {w : World} {B : Nat} {A : Option Addr} {L : List Vc} (h : RdT w B A L) {i : Nat} (hi : i < L.length) :
    ∃ b off a c v, A = some ⟨b, off, none⟩ ∧ b < B ∧ w.cell? ⟨b, off + i, none⟩ = some (.slice a v.length c) ∧ Rd .i64 w B a v ∧ Hid (L[i]? = some (a, c, v)) := by
  obtain ⟨b, off, hA, hB, hc⟩ := h (by omega)
  refine ⟨b, off, (L[i]?.getD vNil).1, (L[i]?.getD vNil).2.1, (L[i]?.getD vNil).2.2, hA, hB, (hc i hi).1, (hc i hi).2, (by simp [List.getElem?_eq_getElem hi] : L[i]? = some ((L[i]?.getD vNil).1, (L[i]?.getD vNil).2.1, (L[i]?.getD vNil).2.2))⟩
theorem RdT.below {w w' : World} {B : Nat} {A : Option Addr} {L : List Vc} (h : RdT w B A L) (hb : Below B w w') : RdT w' B A L := fun hl => by
  obtain ⟨b, off, hA, hB, hc⟩ := h hl
  exact ⟨b, off, hA, hB, fun i hi => ⟨(hb.cell (p := ⟨b, off + i, none⟩) hB).trans (hc i hi).1, (hc i hi).2.below hb⟩⟩
theorem RdT.more {w : World} {B B' : Nat} {A : Option Addr} {L : List Vc} (h : RdT w B A L) (hB : B ≤ B') : RdT w B' A L := fun hl => by
  obtain ⟨b, off, hA, hb, hc⟩ := h hl
  exact ⟨b, off, hA, by omega, fun i hi => ⟨(hc i hi).1, (hc i hi).2.more hB⟩⟩
/-- A vector in memory of the call's own. -/
def TOwn (w : World) (base : Nat) (x : Vc) : Prop := w.ownsRow base 2 1 (.slice x.1 x.2.2.length x.2.1) x.2.2.length (x.2.2.map (Value.int .i64))
/-- A list of vectors, all in memory of the call's own. -/
def OwnT (w : World) (base : Nat) (A : Option Addr) (c : Nat) (L : List Vc) : Prop := w.ownsRow base 57 1 (.slice A L.length c) L.length (cellsV L) ∧ ∀ x ∈ L, TOwn w base x
theorem town_rd {w : World} {base : Nat} {x : Vc} (h : TOwn w base x) : Rd .i64 w w.heap.size x.1 x.2.2 := by
  obtain ⟨A, c, hv, _, _, hrd, _⟩ := own_slice h
  injection hv with q1 q2 q3
  rw [q1]; exact hrd
/-- A row of vectors reads as such, wherever they lie. -/
theorem row_rdT {w : World} {base : Nat} {A : Option Addr} {c : Nat} {L : List Vc} (h : w.ownsRow base 57 1 (.slice A L.length c) L.length (cellsV L)) (hr : ∀ x ∈ L, Rd .i64 w w.heap.size x.1 x.2.2) : RdT w w.heap.size A L := fun hl => by
  obtain ⟨g, rfl, _⟩ := own_some h hl
  refine ⟨g, 0, rfl, (h.lt g rfl).2, fun i hi => ⟨?_, ?_⟩⟩
  · rw [Nat.zero_add, h.cellAt i (by omega)]
    simp [cellsV, List.getElem?_eq_getElem hi]
  · have := hr L[i] (List.getElem_mem hi)
    simpa [List.getElem?_eq_getElem hi] using this
theorem OwnT.rd {w : World} {base : Nat} {A : Option Addr} {c : Nat} {L : List Vc} (h : OwnT w base A c L) : RdT w w.heap.size A L := row_rdT h.1 (fun x hx => town_rd (h.2 x hx))
theorem OwnT.below {w w' : World} {base : Nat} {A : Option Addr} {c : Nat} {L : List Vc} (h : OwnT w base A c L) (hb : Below w.heap.size w w') : OwnT w' base A c L := ⟨own_below h.1 hb, fun x hx => own_below (h.2 x hx) hb⟩
theorem OwnT.nil (w : World) (base : Nat) : OwnT w base none 0 [] := ⟨own_nil_row _ _ _, fun x hx => by simp at hx⟩
theorem TOwn.grown {w w' : World} {base b2 n : Nat} {x : Vc} {v : Value} {xs : List Value} (h : TOwn w base x) (ho : w.ownsRow b2 57 1 v n xs) (hg : w.grownBy w' v.ownBlock) : TOwn w' base x := by
  refine h.kept hg ?_
  rcases h.2 with ⟨hv, _⟩ | ⟨g, cap, cur, hv, _, hc, _⟩
  · rw [hv]; exact .inl rfl
  · rw [hv]
    rcases ho.2 with ⟨rfl, _⟩ | ⟨g', cap', cur', rfl, _, hc', _⟩
    · exact .inr (by simp [Value.ownBlock])
    · refine .inr fun e => ?_
      have e2 : g = g' := by simpa [Value.ownBlock] using e
      subst e2
      rw [hc] at hc'
      simp at hc'
theorem OwnT.snoc {W w3 : World} {base : Nat} {A : Option Addr} {c : Nat} {L : List Vc} {x : Vc} {v : Value} {o : Obj} (h : OwnT W base A c L) (hx : TOwn W base x) (hn : w3.ownsRow base 57 1 v (L.length + 1) (cellsV L ++ [.slice x.1 x.2.2.length x.2.1])) (hg : (W.alloc o).grownBy w3 (Value.slice A L.length c).ownBlock) :
    ∃ A2 c2, v = .slice A2 (L ++ [x]).length c2 ∧ OwnT w3 base A2 c2 (L ++ [x]) := by
  obtain ⟨A2, m, c2, rfl⟩ := own_form hn
  obtain rfl := own_len hn
  rw [cellsV_snoc] at hn
  refine ⟨A2, c2, by simp, ⟨by simpa using hn, fun y hy => ?_⟩⟩
  rcases List.mem_append.1 hy with h1 | h1
  · exact TOwn.grown (x := y) ((h.2 y h1).alloc o) (h.1.alloc o) hg
  · rw [List.mem_singleton] at h1
    subst h1
    exact TOwn.grown (x := y) (hx.alloc o) (h.1.alloc o) hg
theorem OwnT.base {w : World} {b b' : Nat} {A : Option Addr} {c : Nat} {L : List Vc} (h : OwnT w b A c L) (hb : b' ≤ b) : OwnT w b' A c L := ⟨own_base h.1 hb, fun x hx => own_base (h.2 x hx) hb⟩
theorem Try.info57v : (Try.prog.info? 57).map (fun i => (i.zero, i.size, i.bytes)) = some (some (.slice none 0 0), 1, 24) := by kernel_rfl
end Go.Proofs.Ythbimjkcpmffcaa
/- The walks of the statements' own helpers on tables: TwinTables, LeftTables, SameTables. -/
namespace Go.Proofs.Ythbimjkcpmffcaa
open Go.RowKit
set_option linter.unusedVariables false
/-- A twin of a vector: its own memory, with the mark behind it. -/
def TTwin (w : World) (base : Nat) (x : Vc) : Prop := x.2.1 = x.2.2.length + 1 ∧ (∃ g, x.1 = some ⟨g, 0, none⟩) ∧ w.ownsRow base 2 1 (.slice x.1 (x.2.2.length + 1) x.2.1) (x.2.2.length + 1) ((x.2.2 ++ [77]).map (Value.int .i64))
/-- A twin of a list of vectors. -/
structure TwinT (w : World) (base g r : Nat) (T : List Vc) : Prop where
  row : Whole w g 57 (cellsT T r)
  twin : ∀ x ∈ T, TTwin w base x
  apart : T.Pairwise fun x y => x.1 ≠ y.1
theorem TTwin.below {w w' : World} {base : Nat} {x : Vc} (h : TTwin w base x) (hb : Below w.heap.size w w') : TTwin w' base x := ⟨h.1, h.2.1, own_below h.2.2 hb⟩
theorem TwinT.below {w w' : World} {base g r : Nat} {T : List Vc} (h : TwinT w base g r T) (hb : Below w.heap.size w w') : TwinT w' base g r T := ⟨h.row.below hb h.row.lt, fun x hx => (h.twin x hx).below hb, h.apart⟩
theorem TTwin.base {w : World} {b b' : Nat} {x : Vc} (h : TTwin w b x) (hb : b' ≤ b) : TTwin w b' x := ⟨h.1, h.2.1, own_base h.2.2 hb⟩
theorem TTwin.rd {w : World} {base : Nat} {x : Vc} (h : TTwin w base x) : Rd .i64 w w.heap.size x.1 (x.2.2 ++ [77]) := by
  obtain ⟨A, c, hv, _, _, hrd, _⟩ := own_slice h.2.2
  injection hv with q1 q2 q3
  rw [q1]; exact hrd
theorem TTwin.own {w : World} {base : Nat} {x : Vc} (h : TTwin w base x) : TOwn w base x := by
  obtain ⟨h1, ⟨g, hg⟩, h2⟩ := h
  rw [hg] at h2
  have h3 := own_shrink (n := x.2.2.length + 1) (c := x.2.2.length) (Nat.le_succ _) h2
  unfold TOwn
  rw [hg]
  rw [Nat.mul_one, ← List.map_take, List.take_left' rfl] at h3
  exact h3
theorem TwinT.rd {w : World} {base g r : Nat} {T : List Vc} (h : TwinT w base g r T) : RdT w w.heap.size (some ⟨g, 0, none⟩) T := fun hl => by
  refine ⟨g, 0, rfl, h.row.lt, fun i hi => ⟨?_, ?_⟩⟩
  · rw [Nat.zero_add, h.row.cell i]
    have e : T[i]? = some ((T[i]?.getD vNil).1, (T[i]?.getD vNil).2.1, (T[i]?.getD vNil).2.2) := by simp [List.getElem?_eq_getElem hi]
    exact cellsT_at e
  · have := town_rd (h.twin T[i] (List.getElem_mem hi)).own
    simpa [List.getElem?_eq_getElem hi] using this
set_option maxRecDepth 100000 in
set_option maxHeartbeats 2000000 in
theorem twinTabs_any (A : Option Addr) (c : Nat) (L : List Vc) (n : Nat) (hn : n = L.length) (w : World) (hx : RdT w w.heap.size A L) (hl : L.length ≤ 20000) (hv : ∀ v ∈ vecs L, v.length ≤ 20000) :
    Calls Try.prog 24 #[.slice A n c] w fun e w' => e = .returned (.slice (some ⟨w.heap.size, 0, none⟩) n (n + 2)) ∧ (∃ T, TwinT w' w.heap.size w.heap.size 2 T ∧ vecs T = vecs L) ∧ Below w.heap.size w w' := by
  subst hn
  have HV := Lib.hid hv
  have hmk : ∀ W : World, (Instr.makeSlice 56 (.int .i64 0) (.int .i64 ((L.length : Int) + 2))).run Try.prog W = .ok (.slice (some ⟨W.heap.size, 0, none⟩) 0 (L.length + 2)) (W.alloc (.cells (cellsT [] (L.length + 2)) 57)) := fun W => by
    have := run_make_room (P := Try.prog) 56 57 (.slice none 0 0) 24 Try.underlying56 Try.info57v (by rfl) .i64 .i64 (L.length + 2) (by omega) (by omega) W
    rw [cellsT_made] at this
    exact this
  have tw0 : TwinT (w.alloc (.cells (cellsT [] (L.length + 2)) 57)) w.heap.size w.heap.size (L.length + 2) [] := ⟨Whole.new w 57 _, fun x hx => by simp at hx, List.Pairwise.nil⟩
  have hB0 : Below w.heap.size w (w.alloc (.cells (cellsT [] (L.length + 2)) 57)) := below_one (Below.refl _ _) _
  clear hv
  go_enter Try.func24, Try.ntmps24
  go_wp2
  clear hmk
  obtain ⟨W0, eW⟩ : ∃ W0, w.alloc (.cells (cellsT [] (L.length + 2)) 57) = W0 := ⟨_, rfl⟩
  rw [eW] at tw0 hB0 ⊢
  clear eW
  go_loopw [3, 4] (fun v i wr => ∃ k : Nat, k ≤ L.length ∧ i = .int .i64 k ∧ v = .slice (some ⟨w.heap.size, 0, none⟩) k (L.length + 2) ∧ ∃ T : List Vc, T.length = k ∧ TwinT wr w.heap.size w.heap.size (L.length + 2 - k) T ∧ Hid (vecs T = (vecs L).take k) ∧ Below w.heap.size w wr) (fun _ i _ => L.length - (intOf i).toNat)
  case atStart => exact ⟨0, by omega, rfl, rfl, [], rfl, tw0, rfl, hB0⟩
  case round =>
    clear tw0 hB0
    obtain ⟨k, hk, rfl, rfl, T, rfl, hT, hR, hB⟩ := hrel
    by_cases hlt : T.length < L.length
    · obtain ⟨b, off, a1, c1, v1, rfl, hBk, hck, hrd, hv1⟩ := hx.at_ hlt
      have r1 : wr.cell? ⟨b, off + T.length, none⟩ = some (.slice a1 v1.length c1) := (hB.cell (p := ⟨b, off + T.length, none⟩) hBk).trans hck
      have hvl := HV.out v1 (List.mem_of_getElem? (vecs_at hv1.out))
      have TW := Lib.hid (twinInt64s_any a1 c1 v1 _ rfl wr ((hrd.below hB).more hB.size) (by omega))
      have TV := Lib.hid (take_vecs hv1.out)
      have hsz := hB.size
      obtain ⟨r0, hr0⟩ : ∃ r0, L.length + 2 - T.length = r0 + 1 := ⟨L.length + 1 - T.length, by omega⟩
      have hr1 : L.length + 2 - (T.length + 1) = r0 := by omega
      rw [hr0] at hT
      have HR0 := Lib.hid hr1
      clear hr0 hr1 hck hrd hv1
      go_wp2_with (first
        | (go_at_call 83; refine TW.out.mono ?_; rintro e w1 ⟨rfl, hb1, hown1⟩
           have hT1 := hT.below hb1
           have hW2 := hT1.row.alloc (.cells #[.slice (some ⟨wr.heap.size, 0, none⟩) v1.length (v1.length + 1)] 57)
           have hs1 := hb1.size)
        | (at_builtin; refine wpList_append_slot _ rfl (.tmp 15) (.tmp 21) 56 rfl 57 (.slice none 0 0) 24 Try.underlying56 Try.info57v w.heap.size T.length (L.length + 2) _ hW2 rfl (by rw [cellsT_size]; omega) (by omega) ⟨w1.heap.size, 0, none⟩ rfl (.slice (some ⟨wr.heap.size, 0, none⟩) v1.length (v1.length + 1)) (cell_one_new _ _ _) (by simp [Value.oneCell']) ?_))
      have hx1 : TTwin w1 w.heap.size (some ⟨wr.heap.size, 0, none⟩, v1.length + 1, v1) := ⟨rfl, ⟨_, rfl⟩, own_base hown1 hsz⟩
      have hset := hW2.set T.length (.slice (some ⟨wr.heap.size, 0, none⟩) v1.length (v1.length + 1))
      rw [cellsT_set T r0 (some ⟨wr.heap.size, 0, none⟩, v1.length + 1, v1)] at hset
      have far : ∀ x, TTwin w1 w.heap.size x → TTwin ((w1.alloc (.cells #[.slice (some ⟨wr.heap.size, 0, none⟩) v1.length (v1.length + 1)] 57)).setCell ⟨w.heap.size, T.length, none⟩ (.slice (some ⟨wr.heap.size, 0, none⟩) v1.length (v1.length + 1))) w.heap.size x :=
        fun x h => ⟨h.1, h.2.1, own_far (h.2.2.alloc _) hW2 (by decide) _ _⟩
      have hT2 : TwinT ((w1.alloc (.cells #[.slice (some ⟨wr.heap.size, 0, none⟩) v1.length (v1.length + 1)] 57)).setCell ⟨w.heap.size, T.length, none⟩ (.slice (some ⟨wr.heap.size, 0, none⟩) v1.length (v1.length + 1))) w.heap.size w.heap.size r0 (T ++ [(some ⟨wr.heap.size, 0, none⟩, v1.length + 1, v1)]) := by
        refine ⟨hset, fun x hx => ?_, ?_⟩
        · rcases List.mem_append.1 hx with h1 | h1
          · exact far x (hT1.twin x h1)
          · rw [List.mem_singleton] at h1; subst h1; exact far _ hx1
        · refine List.pairwise_append.2 ⟨hT.apart, by simp, fun x hx y hy => ?_⟩
          rw [List.mem_singleton] at hy
          subst hy
          obtain ⟨_, ⟨gx, hgx⟩, hox⟩ := hT.twin x hx
          intro e2
          rw [hgx] at e2 hox
          injection e2 with e2
          injection e2 with e2
          have := (hox.lt gx rfl).2
          omega
      have hB3 := ((hB.trans (hb1.mono hsz)).alloc (by omega) (.cells #[.slice (some ⟨wr.heap.size, 0, none⟩) v1.length (v1.length + 1)] 57)).setCell (p := ⟨w.heap.size, T.length, none⟩) (Nat.le_refl _) (.slice (some ⟨wr.heap.size, 0, none⟩) v1.length (v1.length + 1))
      go_roundw
      case rel => exact ⟨T.length + 1, by omega, by go_num, rfl, T ++ [(some ⟨wr.heap.size, 0, none⟩, v1.length + 1, v1)], by simp, by rw [HR0.out]; exact hT2, Lib.hid (by rw [vecs_snoc, hR.out, TV.out]), hB3⟩
      case measure => simp [intOf]; omega
    · have e : T.length = L.length := by omega
      have hR2 := hR.out
      rw [e, List.take_of_length_le (by rw [vecs_len]; exact Nat.le_refl _)] at hR2
      have HR2 := Lib.hid hR2
      rw [show L.length + 2 - T.length = 2 by omega] at hT
      rw [e]
      clear hR hR2 hlt hk e
      go_wp2
      go_ret
      exact ⟨rfl, ⟨T, hT, HR2.out⟩, hB⟩
set_option maxRecDepth 100000 in
set_option maxHeartbeats 2000000 in
theorem leftTabs_any (g base : Nat) (T : List Vc) (A : Option Addr) (c : Nat) (L : List Vc) (n : Nat) (hn : n = L.length) (w : World) (hT : TwinT w base g 2 T) (hv : vecs T = vecs L) (hx : RdT w w.heap.size A L) (hr : RoomOk L) (hl : L.length ≤ 20000) (hvl : ∀ v ∈ vecs L, v.length ≤ 20000) :
    Calls Try.prog 27 #[.slice (some ⟨g, 0, none⟩) n (n + 2), .slice A n c] w fun e w' => e = .returned (.bool true) ∧ ∃ nq, w' = w.drewN nq := by
  subst hn
  have hTl : T.length = L.length := by rw [← vecs_len T, hv, vecs_len]
  have HT := Lib.hid hT
  have HV := Lib.hid hv
  have HR := Lib.hid hr
  have HVL := Lib.hid hvl
  have HTL := Lib.hid hTl
  clear hT hv hr hvl hTl
  go_enter Try.func27, Try.ntmps27
  go_wp2
  go_loopw [5] (fun i wr => ∃ k nq : Nat, k ≤ L.length ∧ i = .int .i64 k ∧ Hid (wr = w.drewN nq)) (fun i _ => L.length - (intOf i).toNat)
  case atStart => exact ⟨0, 0, by omega, rfl, rfl⟩
  case round =>
    obtain ⟨k, nq0, hk, rfl, hwr⟩ := hrel
    by_cases hlt : k < L.length
    · have hx' : RdT wr w.heap.size A L := by rw [hwr.out]; exact hx.below (below_drewN (Below.refl _ w) nq0)
      obtain ⟨b, off, a1, c1, v1, rfl, hBk, hck, hrd, hv1⟩ := hx'.at_ hlt
      have hkt : k < T.length := by rw [HTL.out]; exact hlt
      have hT' : TwinT wr base g 2 T := by rw [hwr.out]; exact HT.out.below (below_drewN (Below.refl _ w) nq0)
      have tw := hT'.twin T[k] (List.getElem_mem hkt)
      have HTK := Lib.hid (List.getElem?_eq_getElem hkt)
      have tv : (T[k]).2.2 = v1 := by
        have h1 := vecs_vAt hv1.out
        rw [← HV.out] at h1
        unfold vAt vecs at h1
        rw [List.getElem?_map, List.getElem?_eq_getElem hkt] at h1
        exact h1
      obtain ⟨⟨ta, tc, v2⟩, ex⟩ : ∃ x, T[k] = x := ⟨_, rfl⟩
      rw [ex] at tw tv HTK
      have tv' : v2 = v1 := tv
      subst tv'
      have htc : tc = v2.length + 1 := tw.1
      subst htc
      have q1 : wr.cell? ⟨g, k, none⟩ = some (.slice ta v2.length (v2.length + 1)) := (hT'.row.cell k).trans (cellsT_at HTK.out)
      have hvl2 := HVL.out v2 (List.mem_of_getElem? (vecs_at hv1.out))
      have hro := HR.out _ (List.mem_of_getElem? hv1.out)
      have hsz : wr.heap.size = w.heap.size := by rw [hwr.out]; rfl
      have LE := Lib.hid (fun q => leftInt64s_any ta a1 (v2.length + 1) c1 v2 _ rfl (wr.drewN q) w.heap.size (hrd.below (below_drewN (Below.refl _ wr) q)) (by have h1 := tw.rd; rw [hsz] at h1; exact h1.below (below_drewN (Below.refl _ wr) q)) hro.1 (by omega) ⟨hro.2, by omega⟩ (by omega))
      have g1 : (0 : Int) ≤ (k : Int) := by omega
      have g2 : (k : Int) < (L.length : Int) := by omega
      clear hx' hT' tw tv hro hrd hv1 ex HTK hsz
      go_wp2
      go_quiet ((go_at_call 85; with_reducible exact Calls.quiet_of (LE.out _)))
      go_wp2
      go_roundw
      case rel => exact ⟨k + 1, _, by omega, by go_num, Lib.hid (by rw [hwr.out, World.drewN_drewN])⟩
      case measure => simp [intOf]; omega
    · obtain rfl : k = L.length := by omega
      have hT' : TwinT wr base g 2 T := by rw [hwr.out]; exact HT.out.below (below_drewN (Below.refl _ w) nq0)
      have free : ∀ q, q < 2 → wr.cell? ⟨g, L.length + q, none⟩ = some (.slice none 0 0) := fun q hq => by
        have := (hT'.row.cell (T.length + q)).trans (cellsT_free hq)
        rw [HTL.out] at this; exact this
      have HF := Lib.hid free
      clear free hT'
      go_wp2
      go_loop [7] (fun i => ∃ q : Nat, q ≤ 2 ∧ i = .int .i64 ((L.length + q : Nat) : Int)) (fun i => L.length + 2 - (intOf i).toNat)
      case atStart => exact ⟨0, by omega, rfl⟩
      case round =>
        obtain ⟨q, hq, rfl⟩ := hrel
        by_cases hq2 : q < 2
        · have f := HF.out q hq2
          obtain ⟨z, ez⟩ : ∃ z, L.length + q = z := ⟨_, rfl⟩
          rw [ez] at f ⊢
          have hz : z < L.length + 2 := by omega
          have HZ := Lib.hid ez
          clear ez
          go_wp2
          go_round
          case rel => exact ⟨q + 1, by omega, by have := HZ.out; go_num⟩
          case measure => simp [intOf]; omega
        · obtain rfl : q = 2 := by omega
          go_wp2
          go_ret
          exact ⟨rfl, nq0, hwr.out⟩
end Go.Proofs.Ythbimjkcpmffcaa
