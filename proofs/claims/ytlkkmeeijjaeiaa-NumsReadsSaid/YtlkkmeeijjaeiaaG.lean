/- The walks of layer 1 (nums), more: signed, GetItem. -/
import Derived.Test.YtlkkmeeijjaeiaaE
namespace Go.Proofs.Ytlkkmeeijjaeiaa
open Go.RowKit
set_option linter.unusedVariables false
def sgn (c : Int) : Int := if c < 128 then c else c - 256
theorem Try.info74 : (Try.prog.info? 74).map (fun i => (i.zero, i.size, i.bytes)) = some (some (.int .i8 0), 1, 1) := by kernel_rfl
/-- What stands in the new slice when k bytes are done. -/
def sgnUpto (xs : List Int) (k : Nat) : List Int := (xs.take k).map sgn ++ List.replicate (xs.length - k) 0
theorem sgnUpto_zero (xs : List Int) : sgnUpto xs 0 = List.replicate xs.length 0 := by simp [sgnUpto]
theorem sgnUpto_all (xs : List Int) : sgnUpto xs xs.length = xs.map sgn := by simp [sgnUpto]
theorem sgnUpto_len (xs : List Int) (k : Nat) (h : k ≤ xs.length) : (sgnUpto xs k).length = xs.length := by simp [sgnUpto]; omega
theorem sgnUpto_set (xs : List Int) (k : Nat) (v : Int) (hk : k < xs.length) (hv : xs[k]?.getD 0 = v) : (sgnUpto xs k).set k (sgn v) = sgnUpto xs (k + 1) := by
  unfold sgnUpto
  have h1 : ((xs.take k).map sgn).length = k := by simp; omega
  rw [List.set_append_right _ _ (by omega), h1, Nat.sub_self, List.take_succ_eq_append_getElem hk]
  obtain ⟨m, hm⟩ : ∃ m, xs.length - k = m + 1 := ⟨xs.length - k - 1, by omega⟩
  have hm' : xs.length - (k + 1) = m := by omega
  rw [hm, hm', List.replicate_succ, List.set_cons_zero, ← hv, List.getElem?_eq_getElem hk, List.map_append, List.append_assoc]
  rfl
theorem map_set (l : List Int) (i : Nat) (v : Int) : (l.map (Value.int .i8)).set i (.int .i8 v) = (l.set i v).map (Value.int .i8) := by rw [List.map_set]
theorem wrap_sgn (v : Int) (h : 0 ≤ v ∧ v ≤ 255) : IntKind.i8.wrap v = sgn v := by
  have e : IntKind.i8.wrap v = if 128 ≤ v % 256 then v % 256 - 256 else v % 256 := by
    simp [IntKind.wrap, IntKind.bits, IntKind.signed]
  rw [e]
  unfold sgn
  split <;> split <;> omega
set_option maxRecDepth 100000 in
set_option maxHeartbeats 400000 in
theorem signed_any (A : Option Addr) (c : Nat) (xs : List Int) (n : Nat) (hn : n = xs.length) (w : World) (hx : Rd .u8 w w.heap.size A xs) (hb : ∀ x ∈ xs, 0 ≤ x ∧ x ≤ 255) (hl : xs.length ≤ 1000) :
    Calls Try.prog 78 #[.slice A n c] w fun e w' => e = .returned (.slice (some ⟨w.heap.size, 0, none⟩) n n) ∧ Below w.heap.size w w' ∧
      w'.ownsRow w.heap.size 74 1 (.slice (some ⟨w.heap.size, 0, none⟩) n n) n ((xs.map sgn).map (Value.int .i8)) := by
  subst hn
  obtain ⟨i0, hi, hz0, hz1, hz2⟩ := info_parts Try.info74
  go_enter Try.func78, Try.ntmps78
  go_wp2_with (at_make; refine wpList_make_full _ rfl _ _ 52 rfl w.heap.size 74 i0 (.int .i8 0) 1 Try.underlying52 hi hz0 hz1 _ _ _ _ xs.length rfl rfl rfl rfl ?b2 ?b3 (Nat.le_refl _) ?_)
  case b2 => rw [hz2]; omega
  case b3 => unfold maxLen; omega
  intro w1 hown hgrow
  have hB1 : Below w.heap.size w w1 := (Below.refl _ _).grown hgrow (Nat.le_refl _) (by simp)
  have hown1 : w1.ownsRow w.heap.size 74 1 (.slice (some ⟨w.heap.size, 0, none⟩) xs.length xs.length) xs.length ((sgnUpto xs 0).map (Value.int .i8)) := by
    rw [sgnUpto_zero, List.map_replicate]
    rwa [toList_madeCells_one] at hown
  clear hgrow hown
  go_wp2
  go_loopw [11] (fun i wr => ∃ k : Nat, k ≤ xs.length ∧ i = .int .i64 k ∧ wr.ownsRow w.heap.size 74 1 (.slice (some ⟨w.heap.size, 0, none⟩) xs.length xs.length) xs.length ((sgnUpto xs k).map (Value.int .i8)) ∧ Below w.heap.size w wr) (fun i _ => xs.length - (intOf i).toNat)
  case atStart => exact ⟨0, by omega, rfl, hown1, hB1⟩
  case round =>
    clear hown1 hB1
    obtain ⟨k, hk, rfl, hown, hB⟩ := hrel
    have hsz := hB.size
    by_cases hlt : k < xs.length
    · obtain ⟨b, off, v, rfl, hBb, hck, hv⟩ := (hx.below hB).at_ hlt
      have hvb : 0 ≤ v ∧ v ≤ 255 := by
        rw [← hv.out, List.getElem?_eq_getElem hlt]; exact hb _ (List.getElem_mem _)
      have hlen := sgnUpto_len xs k hk
      obtain ⟨u, hu⟩ : ∃ u, wr.cell? ⟨w.heap.size, k, none⟩ = some u := by
        rw [hown.cellAt k (by omega), List.getElem?_map, List.getElem?_eq_getElem (by omega)]; exact ⟨_, rfl⟩
      have hf := hown.frozenAt k
      clear hlen
      go_wp2
      go_roundw
      case rel =>
        rw [wrap_sgn v hvb]
        refine ⟨k + 1, by omega, by go_num, ?_, hB.setCell (p := ⟨w.heap.size, k, none⟩) (Nat.le_refl _) _⟩
        have := (hown.stored k (.int .i8 (sgn v))).1
        rwa [map_set, sgnUpto_set xs k v hlt hv.out] at this
      case measure => simp [intOf]; omega
    · obtain rfl : k = xs.length := by omega
      rw [sgnUpto_all] at hown
      go_wp2
      go_ret
      exact ⟨rfl, hB, hown⟩
/-- What the reader's closure leaves: below its own box nothing has turned, and the box holds the place behind the number. -/
def Moved (W : World) (q : Nat) (place : Int) (W' : World) : Prop := Below q W W' ∧ W'.cell? ⟨q, 0, none⟩ = some (.int .i64 place) ∧ W'.frozen? ⟨q, 0, none⟩ = false
theorem moved_of (W : World) (q nq : Nat) (x : Int) (u : Value) (hq : W.cell? ⟨q, 0, none⟩ = some u) (hf : W.frozen? ⟨q, 0, none⟩ = false) : Moved W q x ((W.setCell ⟨q, 0, none⟩ (.int .i64 x)).drewN nq) :=
  ⟨below_drewN ((Below.refl _ _).setCell (p := ⟨q, 0, none⟩) (Nat.le_refl _) _) nq, World.cell?_setCell_same' _ _ _ (by rw [hq]; rfl), by
    show (W.setCell ⟨q, 0, none⟩ (.int .i64 x)).frozen? ⟨q, 0, none⟩ = false
    rw [World.frozen?_setCell]; exact hf⟩
theorem next_ok (A : Option Addr) (c : Nat) (xs : List Int) (p q place : Nat) (W : World) (B : Nat) (hx : Rd .u8 W B A xs) (hb : ∀ x ∈ xs, 0 ≤ x ∧ x ≤ 255) (hc : xs.length ≤ c) (hm : c ≤ 9223372036854775807 ∧ xs.length ≤ 140737488355328)
    (hp : W.cell? ⟨p, 0, none⟩ = some (.slice A xs.length c)) (hq : W.cell? ⟨q, 0, none⟩ = some (.int .i64 place)) (hf : W.frozen? ⟨q, 0, none⟩ = false) (hpl : place ≤ xs.length) (hE : getE (xs.drop place) = 0) :
    Calls Try.prog 105 #[.pointer (some ⟨p, 0, none⟩), .pointer (some ⟨q, 0, none⟩)] W fun e W' => e = .returned (.tuple #[.int .u64 (getN (xs.drop place)), .int .i64 (place + getK (xs.drop place)), .int .i64 0]) ∧ Moved W q (place + getK (xs.drop place)) W' := by
  refine ((reader1_any A c xs p q place W B hx hb hc hm hp hq hf hpl).2 hE).mono ?_
  rintro e W' ⟨he, nq, rfl⟩
  exact ⟨he, moved_of W q nq _ _ hq hf⟩
/-! What GetItem answers. -/
def itR (xs : List Int) : List Int := xs.drop (getK xs).toNat
def itE (xs : List Int) : Int :=
  if getE xs ≠ 0 then getE xs else if getE (itR xs) ≠ 0 then getE (itR xs) else if isDimB (getN (itR xs)) = false then 5 else
    if ((itR xs).length : Int) - getK (itR xs) < getN (itR xs) then 4 else 0
def itV (xs : List Int) : List Int := ((itR xs).drop (getK (itR xs)).toNat).take (getN (itR xs)).toNat
def itK (xs : List Int) : Int := getK xs + getK (itR xs) + getN (itR xs)
def itNo (x : Int) : Ending := .returned (.tuple #[.agg #[.int .u64 0, .slice none 0 0], .int .i64 0, .int .i64 x])
def GetItemYes (w : World) (xs : List Int) (e : Ending) (w' : World) : Prop :=
  ∃ g, e = .returned (.tuple #[.agg #[.int .u64 (getN xs), .slice (some ⟨g, 0, none⟩) (itV xs).length (itV xs).length], .int .i64 (itK xs), .int .i64 0]) ∧
    w'.ownsRow w.heap.size 74 1 (.slice (some ⟨g, 0, none⟩) (itV xs).length (itV xs).length) (itV xs).length (((itV xs).map sgn).map (Value.int .i8)) ∧ Below w.heap.size w w'


/-- The block r is an item's, still empty. -/
structure Res (r : Nat) (W : World) : Prop where
  b0 : W.cell? ⟨r, 0, none⟩ = some (.int .u64 0)
  b1 : W.cell? ⟨r, 1, none⟩ = some (.slice none 0 0)
  f0 : W.frozen? ⟨r, 0, none⟩ = false
  f1 : W.frozen? ⟨r, 1, none⟩ = false
theorem Res.below {r B : Nat} {W W' : World} (h : Res r W) (hb : Below B W W') (hr : r < B) : Res r W' :=
  ⟨(hb.cell (p := ⟨r, 0, none⟩) hr).trans h.b0, (hb.cell (p := ⟨r, 1, none⟩) hr).trans h.b1, (hb.frozen (p := ⟨r, 0, none⟩) hr).trans h.f0, (hb.frozen (p := ⟨r, 1, none⟩) hr).trans h.f1⟩
/-- What stands when the reader is made. -/
theorem getItem_pre (A : Option Addr) (c : Nat) (xs : List Int) (w : World) (hx : Rd .u8 w w.heap.size A xs) :
    ∃ w0 W q, w.alloc (.cells #[.int .u64 0, .slice none 0 0] 54) = w0 ∧ Hid (Calls Try.prog 73 #[.slice A xs.length c] w0 fun e w' => e = .returned (.func (.func 105) #[] #[.pointer (some ⟨w0.heap.size, 0, none⟩), .pointer (some ⟨q, 0, none⟩)]) ∧ W = w') ∧
      Res w.heap.size W ∧ Below w.heap.size w W ∧ w.heap.size < w0.heap.size ∧ w0.heap.size < q ∧ q < W.heap.size ∧ W.cell? ⟨w0.heap.size, 0, none⟩ = some (.slice A xs.length c) ∧ W.cell? ⟨q, 0, none⟩ = some (.int .i64 ((0 : Nat) : Int)) ∧ W.frozen? ⟨q, 0, none⟩ = false ∧ Rd .u8 W w.heap.size A xs := by
  obtain ⟨w0, hw0⟩ : ∃ w0, w.alloc (.cells #[.int .u64 0, .slice none 0 0] 54) = w0 := ⟨_, rfl⟩
  have hB0 : Below w.heap.size w w0 := by rw [← hw0]; exact (Below.refl _ _).alloc (Nat.le_refl _) _
  have hs0 : w.heap.size + 1 = w0.heap.size := by rw [← hw0]; simp
  have hr : Res w.heap.size w0 := ⟨by rw [← hw0]; simp [go_sem], by rw [← hw0]; simp [go_sem], by rw [← hw0]; simp [go_sem], by rw [← hw0]; simp [go_sem]⟩
  obtain ⟨hp, hq, hf, hbel, hsz⟩ := boxed_cells w0 A xs.length c
  have HR := Lib.hid (reader_any A xs.length c w0)
  exact ⟨w0, boxed w0 A xs.length c, w0.heap.size + 1, hw0, HR, hr.below hbel (by omega), hB0.trans (hbel.mono (by omega)), by omega, by omega, by omega, hp, hq, hf, (hx.below hB0).below (hbel.mono (by omega))⟩

set_option maxRecDepth 100000 in
set_option maxHeartbeats 1000000 in
theorem getItem_no1 (A : Option Addr) (c : Nat) (xs : List Int) (n : Nat) (hn : n = xs.length) (w : World) (hx : Rd .u8 w w.heap.size A xs) (hb : ∀ x ∈ xs, 0 ≤ x ∧ x ≤ 255) (hc : xs.length ≤ c) (hm : c ≤ 9223372036854775807 ∧ xs.length ≤ 140737488355328)
    (hE : getE xs ≠ 0) : Calls Try.prog 31 #[.slice A n c] w fun e w' => e = itNo (getE xs) ∧ Below w.heap.size w w' := by
  subst hn
  obtain ⟨w0, W, q, hw0, HR, ⟨b0, b1, f0, f1⟩, hBW, h1, h2, h3, hp, hq, hf, hxW⟩ := getItem_pre A c xs w hx
  have g1 := (reader1_any A c xs w0.heap.size q 0 W _ hxW hb hc hm hp hq hf (by omega)).1
  simp only [List.drop_zero] at g1
  have G := Lib.hid (g1 hE)
  have hge : (getE xs == 0) = false := by simpa using hE
  clear g1 hE hp hq hf
  generalize getE xs = x at *
  go_enter Try.func31, Try.ntmps31
  go_wp2_with fail
  refine HR.out.mono ?_
  rintro e w' ⟨rfl, rfl⟩
  clear hw0
  go_wp2_with fail
  refine G.out.mono ?_
  rintro e w' ⟨rfl, rfl⟩
  go_wp2
  exact bodyPost_ret (v := .tuple #[.agg #[.int .u64 0, .slice none 0 0], .int .i64 0, .int .i64 x]) (by simp [results, Try.results31, go_sem, b0, b1]) rfl ⟨rfl, (hBW.setCell (p := ⟨w.heap.size, 0, none⟩) (Nat.le_refl _) _).setCell (p := ⟨w.heap.size, 1, none⟩) (Nat.le_refl _) _⟩

set_option maxRecDepth 100000 in
set_option maxHeartbeats 1000000 in
theorem getItem_no2 (A : Option Addr) (c : Nat) (xs : List Int) (n : Nat) (hn : n = xs.length) (w : World) (hx : Rd .u8 w w.heap.size A xs) (hb : ∀ x ∈ xs, 0 ≤ x ∧ x ≤ 255) (hc : xs.length ≤ c) (hm : c ≤ 9223372036854775807 ∧ xs.length ≤ 140737488355328)
    (hE : getE xs = 0) (hE2 : getE (itR xs) ≠ 0) : Calls Try.prog 31 #[.slice A n c] w fun e w' => e = itNo (getE (itR xs)) ∧ Below w.heap.size w w' := by
  subst hn
  obtain ⟨w0, W, q, hw0, HR, hres, hBW, h1, h2, h3, hp, hq, hf, hxW⟩ := getItem_pre A c xs w hx
  have g1 := next_ok A c xs w0.heap.size q 0 W _ hxW hb hc hm hp hq hf (by omega) (by simpa using hE)
  simp only [List.drop_zero, Int.natCast_zero, Int.zero_add] at g1
  have G := Lib.hid g1
  obtain ⟨_, _, _, hk0, hkl, _⟩ := put_got xs hb hE
  obtain ⟨k, hk⟩ : ∃ k : Nat, getK xs = k := ⟨(getK xs).toNat, by omega⟩
  have hR : itR xs = xs.drop k := by unfold itR; rw [hk]; rfl
  rw [hk] at G
  rw [hR] at hE2 ⊢
  have hge : (getE (xs.drop k) == 0) = false := by simpa using hE2
  have hkl' : k ≤ xs.length := by omega
  clear g1 hq hf hk hR hk0 hkl hE
  go_enter Try.func31, Try.ntmps31
  go_wp2_with fail
  refine HR.out.mono ?_
  rintro e w' ⟨rfl, rfl⟩
  clear hw0 HR
  go_wp2_with fail
  refine G.out.mono ?_
  rintro e W1 ⟨rfl, hmv⟩
  clear G
  obtain ⟨hB1, hq1, hf1⟩ := hmv
  have g2 := (reader1_any A c xs w0.heap.size q k W1 _ (hxW.below (hB1.mono (by omega))) hb hc hm ((hB1.cell (p := ⟨w0.heap.size, 0, none⟩) h2).trans hp) hq1 hf1 hkl').1 hE2
  have G2 := Lib.hid g2
  obtain ⟨b0, b1, f0, f1⟩ := hres.below hB1 (by omega)
  have hBW1 : Below w.heap.size w W1 := hBW.trans (hB1.mono (by omega))
  clear g2 hp hq1 hf1 hE2 hB1 hxW hBW
  go_wp2_with fail
  refine G2.out.mono ?_
  rintro e w' ⟨rfl, rfl⟩
  go_wp2
  exact bodyPost_ret (v := .tuple #[.agg #[.int .u64 0, .slice none 0 0], .int .i64 0, .int .i64 (getE (xs.drop k))]) (by simp [results, Try.results31, go_sem, b0, b1]) rfl ⟨rfl, (hBW1.setCell (p := ⟨w.heap.size, 0, none⟩) (Nat.le_refl _) _).setCell (p := ⟨w.heap.size, 1, none⟩) (Nat.le_refl _) _⟩
end Go.Proofs.Ytlkkmeeijjaeiaa
