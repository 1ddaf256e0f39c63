/- The walk of the statement NumsRow. -/
import Derived.Test.YtlkkmeeijjaeiaaJ
namespace Go.Proofs.Ytlkkmeeijjaeiaa
open Go.RowKit
set_option linter.unusedVariables false
/-- Those of the numbers that may be put. -/
def okL (l : List Int) : List Int := l.filter (fun n => decide (n ≤ 4611686018427387903))
def catL (l : List Int) : List Int := l.flatMap (fun n => putL n.toNat)
theorem okL_take_yes (l : List Int) (k : Nat) (N : Nat) (hk : k < l.length) (hv : l[k]?.getD 0 = (N : Int)) (hN : N ≤ 4611686018427387903) : okL (l.take (k + 1)) = okL (l.take k) ++ [(N : Int)] := by
  rw [List.take_succ_eq_append_getElem hk]
  have : l[k] = (N : Int) := by rw [← hv, List.getElem?_eq_getElem hk]; rfl
  rw [this]
  unfold okL
  rw [List.filter_append]
  simp
  omega
theorem okL_take_no (l : List Int) (k : Nat) (v : Int) (hk : k < l.length) (hv : l[k]?.getD 0 = v) (hN : 4611686018427387903 < v) : okL (l.take (k + 1)) = okL (l.take k) := by
  rw [List.take_succ_eq_append_getElem hk]
  have : l[k] = v := by rw [← hv, List.getElem?_eq_getElem hk]; rfl
  rw [this]
  unfold okL
  rw [List.filter_append]
  simp
  omega
theorem okL_len (l : List Int) : (okL l).length ≤ l.length := List.length_filter_le _ _
theorem okL_mem (l : List Int) (h : ∀ x ∈ l, 0 ≤ x) : ∀ x ∈ okL l, 0 ≤ x ∧ x ≤ 4611686018427387903 := by
  intro x hx
  unfold okL at hx
  rw [List.mem_filter] at hx
  exact ⟨h x hx.1, by simpa using hx.2⟩
theorem catL_snoc (l : List Int) (N : Nat) : catL (l ++ [(N : Int)]) = catL l ++ putL N := by
  unfold catL; rw [List.flatMap_append]; simp
theorem catL_len : ∀ (l : List Int), (∀ x ∈ l, 0 ≤ x ∧ x ≤ 4611686018427387903) → (catL l).length ≤ 9 * l.length
  | [], _ => by simp [catL]
  | x :: r, h => by
    have h1 := catL_len r (fun y hy => h y (by simp [hy]))
    have h2 := putL_len9 x.toNat (by have := h x (by simp); omega)
    have e : catL (x :: r) = putL x.toNat ++ catL r := by unfold catL; rw [List.flatMap_cons]
    rw [e, List.length_append, List.length_cons]
    omega
theorem catL_byte (l : List Int) : ∀ x ∈ catL l, 0 ≤ x ∧ x ≤ 255 := by
  intro x hx
  unfold catL at hx
  rw [List.mem_flatMap] at hx
  obtain ⟨n, _, hn⟩ := hx
  exact putL_byte _ x hn
/-- How many bytes the first k numbers have. -/
def cut (l : List Int) (k : Nat) : Nat := (catL (l.take k)).length
theorem cut_drop (l : List Int) (k : Nat) : (catL l).drop (cut l k) = catL (l.drop k) := by
  unfold cut
  have e : catL l = catL (l.take k) ++ catL (l.drop k) := by
    unfold catL
    rw [← List.flatMap_append, List.take_append_drop]
  conv => lhs; rw [e]
  simp
theorem cut_succ (l : List Int) (k N : Nat) (hk : k < l.length) (hv : l[k]?.getD 0 = (N : Int)) : cut l (k + 1) = cut l k + (putL N).length := by
  unfold cut
  rw [List.take_succ_eq_append_getElem hk]
  have : l[k] = (N : Int) := by rw [← hv, List.getElem?_eq_getElem hk]; rfl
  rw [this, catL_snoc, List.length_append]
theorem cut_le (l : List Int) (k : Nat) : cut l k ≤ (catL l).length := by
  have e : catL l = catL (l.take k) ++ catL (l.drop k) := by
    unfold catL
    rw [← List.flatMap_append, List.take_append_drop]
  unfold cut
  rw [e, List.length_append]
  omega
theorem cut_all (l : List Int) : cut l l.length = (catL l).length := by unfold cut; rw [List.take_length]
/-- What is got at the place of the k-th number. -/
theorem cut_get (l : List Int) (k N : Nat) (hk : k < l.length) (hv : l[k]?.getD 0 = (N : Int)) (hN : N ≤ 4611686018427387903) :
    getE ((catL l).drop (cut l k)) = 0 ∧ getN ((catL l).drop (cut l k)) = N ∧ getK ((catL l).drop (cut l k)) = (putL N).length := by
  rw [cut_drop, List.drop_eq_getElem_cons hk]
  have : l[k] = (N : Int) := by rw [← hv, List.getElem?_eq_getElem hk]; rfl
  rw [this]
  have e : catL ((N : Int) :: l.drop (k + 1)) = putL N ++ catL (l.drop (k + 1)) := by unfold catL; rw [List.flatMap_cons]; simp
  rw [e]
  exact get_put N _ hN
theorem getE_nil : getE [] = 4 := by decide
theorem own_ne {w : World} {b1 b2 e1 e2 s1 s2 n1 n2 : Nat} {v1 v2 : Value} {x1 x2 : List Value} (h1 : w.ownsRow b1 e1 s1 v1 n1 x1) (h2 : w.ownsRow b2 e2 s2 v2 n2 x2) (he : e1 ≠ e2) : v1.ownBlock = none ∨ v1.ownBlock ≠ v2.ownBlock := by
  rcases h1.2 with ⟨rfl, _⟩ | ⟨g, cap, cur, rfl, _, hg, _⟩
  · exact .inl rfl
  · right
    rcases h2.2 with ⟨rfl, _⟩ | ⟨g', cap', cur', rfl, _, hg', _⟩
    · simp [Value.ownBlock]
    · simp only [Value.ownBlock, ne_eq, Option.some.injEq]
      rintro rfl
      rw [hg] at hg'
      injection hg' with hg'
      injection hg' with _ ht
      exact he ht
theorem Try.info22 : (Try.prog.info? 22).map (fun i => (i.zero, i.size, i.bytes)) = some (some (.int .u64 0), 1, 8) := by kernel_rfl
/-- A row of the call's own, its value written out. -/
theorem own_slice {w : World} {b e size n : Nat} {v : Value} {xs : List Value} (h : w.ownsRow b e size v n xs) : ∃ A c, v = .slice A n c ∧ n ≤ c ∧ c ≤ maxLen := by
  rcases h.2 with ⟨rfl, rfl⟩ | ⟨g, cap, cur, rfl, _, _, h2, h3, _⟩
  · exact ⟨none, 0, rfl, Nat.le_refl _, by unfold maxLen; omega⟩
  · exact ⟨_, _, rfl, h2, h3⟩
theorem rd_own' {w : World} {base n c : Nat} {e : TypeId} {k : IntKind} {A : Option Addr} {xs : List Int} (h : w.ownsRow base e 1 (.slice A n c) n (xs.map (Value.int k))) : Rd k w w.heap.size A xs := fun hl => by
  have hn : n = xs.length := by have := h.1; simpa using this.symm
  rcases h.2 with ⟨_, h0⟩ | ⟨g, cap, cur, hv, _⟩
  · omega
  · injection hv with h1 _ h3
    subst h1 h3
    exact rd_own h hl
set_option maxRecDepth 100000 in
set_option maxHeartbeats 1000000 in
theorem numsRow_far (A : Option Addr) (c : Nat) (l : List Int) (w : World) (hl : 300 < l.length) (hlm : l.length ≤ 140737488351232) :
    Calls Try.prog 11 #[.slice A l.length c] w fun e w' => e = .returned (.bool true) ∧ Below w.heap.size w w' := by
  have AL := Lib.hid alive_any
  go_enter Try.func11, Try.ntmps11
  go_wp2_with fail
  refine (AL.out w).mono ?_
  rintro e w1 ⟨rfl, hB1⟩
  go_wp2_with fail
  refine (AL.out w1).mono ?_
  rintro e w3 ⟨rfl, hB3⟩
  have hB : Below w.heap.size w w3 := hB1.trans (hB3.mono hB1.size)
  go_wp2
  go_ret
  exact ⟨rfl, hB⟩
theorem own_cap' {w : World} {base e size n cap : Nat} {A : Option Addr} {xs : List Value} (h : w.ownsRow base e size (.slice A n cap) n xs) : n ≤ cap ∧ cap ≤ maxLen := by
  obtain ⟨A', c', hv, h1, h2⟩ := own_slice h
  injection hv with _ _ h3
  subst h3
  exact ⟨h1, h2⟩
/-- What stands between two rounds of the first loop. -/
def RowI (w : World) (l : List Int) (v3 v4 : Value) (k : Nat) (wr : World) : Prop :=
  (∃ A c, v3 = .slice A (catL (okL (l.take k))).length c) ∧ (∃ A c, v4 = .slice A (okL (l.take k)).length c) ∧
  wr.ownsRow w.heap.size 5 1 v3 (catL (okL (l.take k))).length ((catL (okL (l.take k))).map (Value.int .u8)) ∧
  wr.ownsRow w.heap.size 22 1 v4 (okL (l.take k)).length ((okL (l.take k)).map (Value.int .u64)) ∧ Below w.heap.size w wr
set_option maxRecDepth 100000 in
set_option maxHeartbeats 4000000 in
theorem numsRow_near (A : Option Addr) (c : Nat) (l : List Int) (w : World) (hl : l.length ≤ 300) (hx : Rd .u64 w w.heap.size A l) (hb : ∀ x ∈ l, 0 ≤ x) :
    Calls Try.prog 11 #[.slice A l.length c] w fun e w' => e = .returned (.bool true) ∧ Below w.heap.size w w' := by
  have AL := Lib.hid alive_any
  obtain ⟨i0, hi, hz0, hz1, hz2⟩ := info_parts Try.info5p
  obtain ⟨j0, gi, gz0, gz1, gz2⟩ := info_parts Try.info22
  go_enter Try.func11, Try.ntmps11
  go_wp2_with fail
  refine (AL.out w).mono ?_
  rintro e w1 ⟨rfl, hB1⟩
  go_wp2_with fail
  go_loopw [3, 4, 5] (fun v3 v4 i wr => ∃ k : Nat, k ≤ l.length ∧ i = .int .i64 k ∧ RowI w l v3 v4 k wr) (fun _ _ i _ => l.length - (intOf i).toNat)
  case atStart => exact ⟨0, by omega, rfl, ⟨_, _, rfl⟩, ⟨_, _, rfl⟩, World.ownsRow_nil _ _ _ _, World.ownsRow_nil _ _ _ _, hB1⟩
  case round =>
    clear hB1
    obtain ⟨k, hk, rfl, ⟨A3, c3, rfl⟩, ⟨A4, c4, rfl⟩, own3, own4, hB⟩ := hrel
    have hsz := hB.size
    by_cases hlt : k < l.length
    · obtain ⟨b, off, v, rfl, hBb, hck, hv⟩ := (hx.below hB).at_ hlt
      have hv0 : 0 ≤ v := by rw [← hv.out, List.getElem?_eq_getElem hlt]; exact hb _ (List.getElem_mem _)
      by_cases hbig : 4611686018427387903 < v
      · have PN := Lib.hid (put_no v hbig wr)
        have EQ := Lib.hid (okL_take_no l k v hlt hv.out hbig)
        clear hbig hv0
        go_wp2_with fail
        refine PN.out.mono ?_
        rintro e w' ⟨rfl, rfl⟩
        go_wp2
        go_roundw
        case rel => exact ⟨k + 1, by omega, by go_num, by unfold RowI; rw [EQ.out]; exact ⟨⟨_, _, rfl⟩, ⟨_, _, rfl⟩, own3, own4, hB⟩⟩
        case measure => simp [intOf]; omega
      · obtain ⟨N, rfl⟩ := Int.eq_ofNat_of_zero_le hv0
        have hN : N ≤ 4611686018427387903 := by omega
        have PN := Lib.hid (put_yes N hN wr)
        have EQ := Lib.hid (okL_take_yes l k N hlt hv.out hN)
        have h9 := putL_len9 N hN
        have hlen1 := okL_len (l.take k)
        have hlen2 := catL_len (okL (l.take k)) (okL_mem _ (fun x hx => hb x (List.mem_of_mem_take hx)))
        rw [List.length_take] at hlen1
        have hEQ2 : Hid (catL (okL (l.take (k + 1))) = catL (okL (l.take k)) ++ putL N) := by show _ = _; rw [EQ.out, catL_snoc]
        have hckw : w.cell? ⟨b, off + k, none⟩ = some (.int .u64 (N : Int)) := (hB.cell (p := ⟨b, off + k, none⟩) hBb).symm.trans hck
        clear hbig hv0 hN
        go_wp2_with fail
        refine PN.out.mono ?_
        rintro e w2 ⟨g, cap, rfl, hownb, hB2⟩
        have own3' := own_keep own3 hB2
        have own4' := own_keep own4 hB2
        have hB2' : Below w.heap.size w w2 := hB.trans (hB2.mono hsz)
        have hsz2 := hB2'.size
        have hrdb := rd_own hownb
        clear PN own3 own4 hB hB2 hownb
        go_wp2_with (first
          | (at_builtin; refine wpList_append_own _ rfl (.tmp 40) (.tmp 41) 23 rfl w.heap.size 5 i0 (.int .u8 0) 1 1 Try.underlying23 hi hz0 hz1 hz2 rfl (by decide) _ _ _ rfl own3' ⟨g, 0, none⟩ (putL N).length cap ((putL N).map (Value.int .u8)) rfl (by simp) (rd_cells hrdb) (ints_one _ _) (by unfold maxLen; omega) (by omega) hsz2 ?_; intro v3 w3 own3n hg3 _
             have hB3 : Below w.heap.size w w3 := hB2'.grown hg3 hsz2 (fun j hj => (own3'.lt j hj).1)
             have own4n := own4'.kept hg3 (own_ne own4' own3' (by decide))
             have hsz3 := hB3.size
             have hck3 : w3.cell? ⟨b, off + k, none⟩ = some (.int .u64 (N : Int)) := (hB3.cell (p := ⟨b, off + k, none⟩) hBb).trans hckw
             obtain ⟨A3', c3', rfl, _, _⟩ := own_slice own3n)
          | (at_builtin; refine wpList_append_own _ rfl (.tmp 43) (.tmp 48) 65 rfl w.heap.size 22 j0 (.int .u64 0) 1 8 Try.underlying65 gi gz0 gz1 gz2 rfl (by decide) _ _ _ rfl (own4n.alloc _) ⟨w3.heap.size, 0, none⟩ 1 1 [.int .u64 (N : Int)] rfl rfl (cell_one_new _ _ _) (by simp [Value.oneCell']) (by unfold maxLen; omega) (by omega) (by simp; omega) ?_; intro v4 w4 own4m hg4 _
             have hB4 : Below w.heap.size w w4 := (hB3.alloc hsz3 _).grown hg4 (by simp; omega) (fun j hj => (own4n.lt j hj).1)
             have own3m := (own3n.alloc (.cells #[.int .u64 (N : Int)] 22)).kept hg4 (own_ne (own3n.alloc (.cells #[.int .u64 (N : Int)] 22)) (own4n.alloc (.cells #[.int .u64 (N : Int)] 22)) (by decide))
             obtain ⟨A4', c4', rfl, _, _⟩ := own_slice own4m))
        go_roundw
        case rel =>
          refine ⟨k + 1, by omega, by go_num, ?_⟩
          unfold RowI
          rw [hEQ2.out, EQ.out, List.length_append, List.length_append, List.map_append, List.map_append]
          exact ⟨⟨_, _, rfl⟩, ⟨_, _, rfl⟩, own3m, own4m, hB4⟩
        case measure => simp [intOf]; omega
    · obtain rfl : k = l.length := by omega
      rw [List.take_length] at own3 own4
      rw [List.take_length]
      have hlen1 := okL_len l
      have hmem := okL_mem l hb
      have hlen2 := catL_len (okL l) hmem
      have HM := Lib.hid hmem
      clear hmem hx hb
      generalize okL l = os at *
      have hcutall := Lib.hid (cut_all os)
      have hcut : Hid (∀ k, cut os k ≤ (catL os).length) := fun k => cut_le os k
      obtain ⟨es, hes⟩ : ∃ es, catL os = es := ⟨_, rfl⟩
      have hby := catL_byte os
      have HG := Lib.hid (cut_get os)
      rw [hes] at own3 hlen2 hcut hcutall hby HG ⊢
      have hE := Lib.hid hes
      clear hes
      obtain ⟨h3c, h3m⟩ := own_cap' own3
      unfold maxLen at h3m
      have rd3 := rd_own' own3
      have rd4 := rd_own' own4
      clear own3 own4
      obtain ⟨wo, rfl⟩ : ∃ wo : World, wo = wr := ⟨_, rfl⟩
      go_wp2_with fail
      go_loopw [8, 9] (fun a i w2 => ∃ k : Nat, k ≤ os.length ∧ i = .int .i64 k ∧ a = .int .i64 (cut os k : Nat) ∧ Below wo.heap.size wo w2) (fun _ i _ => os.length - (intOf i).toNat)
      case atStart => exact ⟨0, by omega, rfl, rfl, Below.refl _ _⟩
      case round =>
        obtain ⟨k, hk, rfl, rfl, hB2⟩ := hrel
        have hsz2 := hB2.size
        have hck := hcut.out k
        by_cases hlt : k < os.length
        · obtain ⟨b4, off4, v, rfl, hB4, hck4, hv⟩ := (rd4.below hB2).at_ hlt
          have hvb := HM.out v (by rw [← hv.out, List.getElem?_eq_getElem hlt]; exact List.getElem_mem _)
          obtain ⟨N, rfl⟩ := Int.eq_ofNat_of_zero_le hvb.1
          have hN : N ≤ 4611686018427387903 := by omega
          obtain ⟨z1, z2, z3⟩ := HG.out k N hlt hv.out hN
          have hpos := putL_ne N
          have h9 := putL_len9 N hN
          have hsucc := cut_succ os k N hlt hv.out
          have hck2 := hcut.out (k + 1)
          rw [hsucc] at hck2
          have HSU := Lib.hid hsucc
          have hne : ¬ c3 = cut os k := by omega
          have G := get_any (A3.map (·.add (cut os k))) (c3 - cut os k) (es.drop (cut os k)) (es.length - cut os k) (by rw [List.length_drop]) wr wo.heap.size (by have := (rd3.below hB2).drop (n := cut os k) h3c; rwa [if_neg hne] at this) hsz2 (byte_drop hby _) (by rw [List.length_drop]; omega) (by rw [List.length_drop]; omega)
          rw [z1, z2, z3] at G
          have GG := Lib.hid G
          clear G z1 z2 z3 hsucc hN hvb
          generalize (putL N).length = m at *
          generalize cut os k = a at *
          go_wp2_with fail
          refine GG.out.mono ?_
          rintro e w3 ⟨rfl, hB3⟩
          have hck5 : w3.cell? ⟨b4, off4 + k, none⟩ = some (.int .u64 (N : Int)) := (hB3.cell (p := ⟨b4, off4 + k, none⟩) (by show b4 < wr.heap.size; omega)).trans hck4
          have hB3' : Below wo.heap.size wo w3 := hB2.trans (hB3.mono hsz2)
          clear GG hB2 hB3 hck4
          go_wp2
          go_roundw
          case rel => exact ⟨k + 1, by omega, by go_num, by rw [HSU.out]; go_num, hB3'⟩
          case measure => simp [intOf]; omega
        · obtain rfl : k = os.length := by omega
          rw [hcutall.out] at *
          have hBf : Below w.heap.size w wr := hB.trans (hB2.mono hsz)
          by_cases hne : c3 = es.length
          · have G := Lib.hid (get_any A3 0 [] 0 rfl wr wo.heap.size (fun h => by simp at h) hsz2 (by simp) (by simp) (by simp))
            rw [getE_nil] at G
            subst hne
            clear HG hcut hcutall HM hE hby
            go_wp2_with fail
            refine G.out.mono ?_
            rintro e w3 ⟨rfl, hB3⟩
            go_wp2
            go_ret
            exact ⟨rfl, hBf.trans (hB3.mono hBf.size)⟩
          · have G := Lib.hid (get_any (A3.map (·.add es.length)) (c3 - es.length) [] 0 rfl wr wo.heap.size (fun h => by simp at h) hsz2 (by simp) (by simp) (by simp; omega))
            rw [getE_nil] at G
            clear HG hcut hcutall HM hE hby
            go_wp2_with fail
            refine G.out.mono ?_
            rintro e w3 ⟨rfl, hB3⟩
            go_wp2
            go_ret
            exact ⟨rfl, hBf.trans (hB3.mono hBf.size)⟩
end Go.Proofs.Ytlkkmeeijjaeiaa
