/- Pruning: what makes a place needless beside another one (a closure), and the library's DeleteFunc at spots. -/
import Derived.Test.YtfokejlancmahaaGreatUe
import Derived.Test.YtfokejlancmahaaGreatUc
import Derived.Shelf.SlicesE.DeleteFunc
import Derived.Deep.RegionHeld3
import Derived.Deep.Cut
namespace Go.Proofs.YtfokejlancmahaaGreat
open Go.Shelf Go.RowKit Go.Lib
open Go.Sort hiding Below
set_option linter.unusedVariables false
set_option linter.unusedSimpArgs false
theorem beside_any (x0 x1 x2 : Value) (A : Option Addr) (nn c : Nat) (d g b n m : Int) (w : World) :
    Calls Tryz.prog 32 #[.agg #[x0, x1, x2], .slice A nn c, .agg #[.int .i64 d, .int .i64 g, .int .i64 b, .int .i64 n, .int .i64 m]] w fun e w' =>
      e = .returned (.func (.func 93) #[] #[.pointer (some ⟨w.heap.size + 1 + 1, 0, none⟩), .pointer (some ⟨w.heap.size + 1, 0, none⟩), .pointer (some ⟨w.heap.size, 0, none⟩)]) ∧
      w' = ((w.alloc (.cells #[x0, x1, x2] 81)).alloc (.cells #[.slice A nn c] 22)).alloc (.cells #[.int .i64 d, .int .i64 g, .int .i64 b, .int .i64 n, .int .i64 m] 26) := by
  go_enter Tryz.func32, Tryz.ntmps32
  go_wp2
  go_ret
  exact ⟨rfl, rfl⟩
/-- What the closure says of a spot. -/
def pdQ (G : List Pn) (a : Nat) (n m : Int) (k x : Nat) : Bool := ndB n m (fI G (clQ G.length k) (clQ G.length x)) (kQ G a x).2
set_option maxRecDepth 100000 in
set_option maxHeartbeats 4000000 in
theorem closure_any (A : Option Addr) (c : Nat) (L : List Gn) (dm a k x : Nat) (hP : PG (pns L) dm) (ha : a < L.length) (d g b n m : Int) (hn : 1 ≤ n ∧ n ≤ 1000) (hm : 1 ≤ m ∧ m ≤ 1000) (s nb kb : Nat) (w : World) (hx : RdG w w.heap.size A L)
    (hs : Whole w s 26 #[.int .i64 d, .int .i64 g, .int .i64 b, .int .i64 n, .int .i64 m]) (hnb : Whole w nb 22 #[.slice A L.length c]) (hkb : Whole w kb 81 #[.int .i64 (clQ L.length k : Nat), .int .u64 (kQ (pns L) a k).1, .int .i64 (kQ (pns L) a k).2]) :
    Calls Tryz.prog 93 #[.agg #[.int .i64 (clQ L.length x : Nat), .int .u64 (kQ (pns L) a x).1, .int .i64 (kQ (pns L) a x).2], .pointer (some ⟨s, 0, none⟩), .pointer (some ⟨nb, 0, none⟩), .pointer (some ⟨kb, 0, none⟩)] w fun e w' => e = .returned (.bool (pdQ (pns L) a n m k x)) ∧ Below w.heap.size w w' := by
  have hln := pns_len L
  have hk := clQ_lt (n := L.length) (p := k) (by omega)
  have hxl := clQ_lt (n := L.length) (p := x) (by omega)
  have E := Lib.hid (show pdQ (pns L) a n m k x = ndB n m (fI (pns L) (clQ L.length k) (clQ L.length x)) (kQ (pns L) a x).2 by unfold pdQ; rw [hln])
  have hbd1 := fI_bd hP (a := clQ L.length k) (b := clQ L.length x) (by omega) (by omega)
  have hbd2 : 0 ≤ (kQ (pns L) a x).2 ∧ (kQ (pns L) a x).2 ≤ 4161600 := by unfold kQ; rw [hln]; exact fI_bd hP (by omega) (by omega)
  obtain ⟨kc, ekc⟩ : ∃ kc, clQ L.length k = kc := ⟨_, rfl⟩
  obtain ⟨xc, exc⟩ : ∃ xc, clQ L.length x = xc := ⟨_, rfl⟩
  rw [ekc] at hk hkb E hbd1
  rw [exc] at hxl E hbd1 ⊢
  obtain ⟨x1, ex1⟩ : ∃ x1, (kQ (pns L) a x).1 = x1 := ⟨_, rfl⟩
  obtain ⟨x2, ex2⟩ : ∃ x2, (kQ (pns L) a x).2 = x2 := ⟨_, rfl⟩
  rw [ex2] at E hbd2
  rw [ex1, ex2]
  have B0 : Below w.heap.size w (w.alloc (.cells #[.int .i64 (xc : Int), .int .u64 x1, .int .i64 x2] 81)) := below_one (Below.refl _ _) _
  have Z0 := Whole.new w 81 #[.int .i64 (xc : Int), .int .u64 x1, .int .i64 x2]
  obtain ⟨w1, ew1⟩ : ∃ w1, w.alloc (.cells #[.int .i64 (xc : Int), .int .u64 x1, .int .i64 x2] 81) = w1 := ⟨_, rfl⟩
  rw [ew1] at B0 Z0
  have hs1 := hs.below B0 hs.lt
  have hn1 := hnb.below B0 hnb.lt
  have hk1 := hkb.below B0 hkb.lt
  have hx1 := (hx.below B0).more B0.size
  have HB0 := Lib.hid B0
  clear hs hnb hkb hx ekc exc ex1 ex2 ha
  go_enter Tryz.func93, Tryz.ntmps93
  go_upto_region 1 with fail
  obtain ⟨bx, ebx⟩ : ∃ b, w.heap.size = b := ⟨_, rfl⟩
  rw [ebx] at Z0 ⊢
  have HE := Lib.hid ebx
  have KS : ∀ W, Below w1.heap.size w1 W → (W.cell? ⟨s, 0, none⟩ = some (.int .i64 d) ∧ W.cell? ⟨s, 1, none⟩ = some (.int .i64 g) ∧ W.cell? ⟨s, 2, none⟩ = some (.int .i64 b) ∧ W.cell? ⟨s, 3, none⟩ = some (.int .i64 n) ∧ W.cell? ⟨s, 4, none⟩ = some (.int .i64 m)) ∧ W.cell? ⟨nb, 0, none⟩ = some (.slice A L.length c) ∧ W.cell? ⟨kb, 0, none⟩ = some (.int .i64 (kc : Int)) ∧ W.cell? ⟨bx, 0, none⟩ = some (.int .i64 (xc : Int)) ∧ W.cell? ⟨bx, 2, none⟩ = some (.int .i64 x2) := fun W h => by
    have z := hs1.below h hs1.lt
    exact ⟨⟨z.cell 0, z.cell 1, z.cell 2, z.cell 3, z.cell 4⟩, (hn1.below h hn1.lt).cell 0, (hk1.below h hk1.lt).cell 0, (Z0.below h Z0.lt).cell 0, (Z0.below h Z0.lt).cell 2⟩
  have KC : ∀ {f : Nat} {args : Array Value} {W : World} {e0 : Ending}, Below w1.heap.size w1 W → (Calls Tryz.prog f args W fun e w' => e = e0 ∧ Below W.heap.size W w') → Calls Tryz.prog f args W fun e w' => e = e0 ∧ Below w1.heap.size w1 w' ∧ (w'.cell? ⟨s, 0, none⟩ = some (.int .i64 d) ∧ w'.cell? ⟨s, 1, none⟩ = some (.int .i64 g) ∧ w'.cell? ⟨s, 2, none⟩ = some (.int .i64 b) ∧ w'.cell? ⟨s, 3, none⟩ = some (.int .i64 n) ∧ w'.cell? ⟨s, 4, none⟩ = some (.int .i64 m)) ∧ w'.cell? ⟨nb, 0, none⟩ = some (.slice A L.length c) ∧ w'.cell? ⟨kb, 0, none⟩ = some (.int .i64 (kc : Int)) ∧ w'.cell? ⟨bx, 0, none⟩ = some (.int .i64 (xc : Int)) ∧ w'.cell? ⟨bx, 2, none⟩ = some (.int .i64 x2) := fun h C => C.mono fun e w' q => (by
    have hw := h.trans (q.2.mono h.size)
    exact ⟨q.1, hw, KS w' hw⟩)
  have A1 := Lib.hid (fun W (h : Below w1.heap.size w1 W) => KC h (apartQ_any A c L.length L rfl dm hP kc xc (by omega) (by omega) W W.heap.size (Nat.le_refl _) ((hx1.below h).more h.size)))
  have A3 := Lib.hid (fun W (h : Below w1.heap.size w1 W) => KC h (needless_any d g b n m (fI (pns L) kc xc) x2 W hn hm hbd1 hbd2))
  have hd1 : Below w1.heap.size w1 w1.drew := (Below.refl _ _).drew
  obtain ⟨⟨j1, j2, j3, j4, j5⟩, j6, j7, j8, j9⟩ := KS _ hd1
  obtain ⟨F1, e1⟩ : ∃ F, fI (pns L) kc xc = F := ⟨_, rfl⟩
  rw [e1] at A3 E A1
  clear e1 ew1 ebx hln hk hxl hbd1 hbd2 KC KS B0 Z0 hs1 hn1 hk1 hx1 hn hm hP
  go_wp2
  go_region_held3 (fun w' => w'.cell? ⟨s, 0, none⟩ = some (.int .i64 d) ∧ w'.cell? ⟨s, 1, none⟩ = some (.int .i64 g) ∧ w'.cell? ⟨s, 2, none⟩ = some (.int .i64 b) ∧ w'.cell? ⟨s, 3, none⟩ = some (.int .i64 n) ∧ w'.cell? ⟨s, 4, none⟩ = some (.int .i64 m) ∧ w'.cell? ⟨nb, 0, none⟩ = some (.slice A L.length c) ∧ w'.cell? ⟨kb, 0, none⟩ = some (.int .i64 (kc : Int)) ∧ w'.cell? ⟨bx, 0, none⟩ = some (.int .i64 (xc : Int)) ∧ w'.cell? ⟨bx, 2, none⟩ = some (.int .i64 x2))
    (first | exact ⟨by with_reducible assumption, by with_reducible assumption, by with_reducible assumption, by with_reducible assumption, by with_reducible assumption, by with_reducible assumption, by with_reducible assumption, by with_reducible assumption, by with_reducible assumption⟩)
    (first
      | (go_at_call 89; (with_reducible refine (A1.out _ (by with_reducible assumption)).mono ?_); rintro e w3 ⟨rfl, b3, ⟨y1, y2, y3, y4, y5⟩, y6, y7, y8, y9⟩)
      | (go_at_call 94; (with_reducible refine (A3.out _ (by with_reducible assumption)).mono ?_); rintro e w5 ⟨rfl, b5, ⟨v1, v2, v3, v4, v5⟩, v6, v7, v8, v9⟩)
      | fail)
  all_goals
    clear y1 y2 y3 y4 y5 y6 y7 y8 y9 v1 v2 v3 v4 v5 v6 v7 v8 v9 j1 j2 j3 j4 j5 j6 j7 j8 j9
    go_wp2
    go_ret
    exact ⟨retq E.out.symm, HB0.out.trans (b5.mono HB0.out.size)⟩
set_option maxRecDepth 100000 in
set_option maxHeartbeats 4000000 in
theorem delS_any (G : List Pn) (a : Nat) (pd : Nat → Bool) (l1 l2 l3 : Value) (blk cap : Nat) (d : Array Nat) (w : World) (cs : Array Value)
    (hpd : ∀ W x, Turn [blk] w W → Calls Tryz.prog 93 #[.agg #[.int .i64 (clQ G.length x : Nat), .int .u64 (kQ G a x).1, .int .i64 (kQ G a x).2], l1, l2, l3] W fun e w' => e = .returned (.bool (pd x)) ∧ Below W.heap.size W w')
    (hw : Whole w blk 81 cs) (hs : SpC G a cs d) (hsz : d.size ≤ 1000000) (hcs : d.size * 3 ≤ cs.size) (hcap : d.size ≤ cap) (hcm : cap ≤ 9223372036854775807) :
    Calls Tryz.prog 31 #[.slice (some ⟨blk, 0, none⟩) d.size cap, .func (.func 93) #[] #[l1, l2, l3]] w fun e w' =>
      e = .returned (.slice (some ⟨blk, 0, none⟩) (d.toList.filter fun x => !pd x).length cap) ∧ (∃ cs', Whole w' blk 81 cs' ∧ cs'.size = cs.size ∧ SpC G a cs' (d.toList.filter fun x => !pd x).toArray) ∧ Turn [blk] w w' := by
  have eg := Tryz.call93
  have tl : ∀ j, j < d.size → d.toList[j]! = d[j]! := fun j hj => by rw [getElem!_pos d j hj, getElem!_pos d.toList j (by simpa using hj)]; simp
  have hIF := findS_any G a pd 93 #[l1, l2, l3] eg blk 0 d.size cap d.toList w (fun W x hb => by
      have := hpd W x ((Turn.of_below hb).more (fun a ha => by simp at ha))
      exact this.mono fun e w' q => ⟨q.1, hb.trans (q.2.mono hb.size)⟩) (by simp) (by omega) hw.lt (fun j hj i v hv => by
      have hj' : j < d.size := by simpa using hj
      rw [tl j hj'] at hv
      obtain ⟨h0, h1, h2⟩ := hs j hj'
      rw [Nat.zero_add, hw.cell]
      rcases i with _ | _ | _ | i
      · rw [Nat.add_zero, h0]; exact hv
      · rw [h1]; exact hv
      · rw [h2]; exact hv
      · cases hv)
  rw [show d.toList.take d.size = d.toList from List.take_of_length_le (by simp)] at hIF
  obtain ⟨kp, HK⟩ : ∃ kp : Nat → Bool, Hid (kp = fun j => !pd d[j]!) := ⟨_, rfl⟩
  have hfil : (d.toList.filter fun x => !pd x) = keptUpTo kp d d.size := by rw [HK.out]; exact (keptUpTo_filter (fun x => !pd x) d).symm
  rw [hfil]
  rcases idxByFrom_spec (fun _ y => pd y) default d.toList 0 with ⟨e1, hall⟩ | ⟨k0, hk0, e1, ht, hall⟩
  · have e2 : Lib.idxBy (fun _ y => pd y) d.toList default = -1 := e1
    rw [e2] at hIF
    have hkeep : ∀ j, j < d.size → kp j = true := fun j hj => by rw [HK.out]; show (!pd d[j]!) = true; rw [← tl j hj, hall j (by simpa using hj)]; rfl
    have e3 : keptUpTo kp d d.size = d.toList := by rw [keptUpTo_all kp d _ hkeep, range_map_get]
    have HW := Lib.hid hw
    have HS := Lib.hid hs
    clear hs hpd hw
    rw [e3]
    go_enter Tryz.func31, Tryz.ntmps31
    go_wp2_with fail
    refine hIF.mono ?_
    rintro e w1 ⟨rfl, b1⟩
    dsimp only
    clear hIF
    go_wp2
    go_ret
    exact ⟨by simp, ⟨cs, HW.out.below b1 HW.out.lt, rfl, by simpa using HS.out⟩, (Turn.of_below b1).more (fun a ha => by simp at ha)⟩
  · have hk0' : k0 < d.size := by simpa using hk0
    have e2 : Lib.idxBy (fun _ y => pd y) d.toList default = (k0 : Int) := by unfold Lib.idxBy; rw [e1]; simp
    rw [e2] at hIF
    have hkeep : ∀ j, j < k0 → kp j = true := fun j hj => by rw [HK.out]; show (!pd d[j]!) = true; rw [← tl j (by omega), hall j hj]; rfl
    have hdrop : kp k0 = false := by rw [HK.out]; show (!pd d[k0]!) = false; rw [← tl k0 hk0']; rw [show pd d.toList[k0]! = true from ht]; rfl
    have hne1 : ((k0 : Int) == -1) = false := beq_eq_false_iff_ne.2 (by omega)
    have HC := Lib.hid hpd
    have HW := Lib.hid hw
    have HS := Lib.hid hs
    have HKI := Lib.hid (show KeptInv kp d (k0 + 1) k0 d from KeptInv.start hkeep hdrop)
    clear hpd hw hs hall ht e1 e2 tl hkeep hdrop hfil
    go_enter Tryz.func31, Tryz.ntmps31
    go_wp2_with fail
    refine hIF.mono ?_
    rintro e w1 ⟨rfl, b1⟩
    dsimp only
    have HW1 : Hid (Whole w1 blk 81 cs) := Lib.hid (HW.out.below b1 HW.out.lt)
    have HT1 : Hid (Turn [blk] w w1) := Lib.hid ((Turn.of_below b1).more (fun a ha => by simp at ha))
    clear hIF b1
    go_wp2
    go_loopw [5, 6] (fun x5 x6 wr => ∃ (i j : Nat) (dk : Array Nat) (cc : Array Value), x5 = .int .i64 i ∧ x6 = .int .i64 j ∧ j ≤ d.size ∧ Hid (Whole wr blk 81 cc) ∧ Hid (cc.size = cs.size) ∧ Hid (SpC G a cc dk) ∧ Hid (KeptInv kp d j i dk) ∧ Hid (Turn [blk] w wr)) (fun _ j _ => d.size - (intOf j).toNat)
    case atStart => exact ⟨k0, k0 + 1, d, cs, rfl, by go_num, by omega, HW1, Lib.hid rfl, HS, HKI, HT1⟩
    case round =>
      clear HW1 HT1 HKI
      obtain ⟨i, j, dk, cc, rfl, rfl, hjd, HWr, HCr, HSr, HI, HT⟩ := hrel
      have hij := HI.out.lt
      have hds := HI.out.size
      by_cases hlt : j < d.size
      · have e5 : decide ((j : Int) < (d.size : Int)) = true := decide_eq_true (by omega)
        have hj := HSr.out j (by omega)
        rw [HI.out.high j (by omega)] at hj
        obtain ⟨h0, h1, h2⟩ := hj
        have hWr := HWr.out
        have c0 := (hWr.cell (j * 3)).trans h0
        have c1 := (hWr.cell (j * 3 + 1)).trans h1
        have c2 := (hWr.cell (j * 3 + 2)).trans h2
        have hcall := fun W hW => HC.out W d[j]! hW
        have HSet := Lib.hid (HSr.out.set (i := i) (by omega) d[j]!)
        have HKeep := Lib.hid (fun h => HI.out.keep hlt h)
        have HSkip := Lib.hid (fun h => HI.out.skip h)
        have HKj := Lib.hid (show kp j = !pd d[j]! by rw [HK.out])
        clear h0 h1 h2
        have ho := HSr.out i (by omega)
        have f0 := hWr.frozen (i * 3)
        obtain ⟨o0, o1, o2⟩ := ho
        have HO0 := Lib.hid o0
        have HO1 := Lib.hid o1
        have HO2 := Lib.hid o2
        clear o0 o1 o2 f0
        obtain ⟨u, eu⟩ : ∃ u, d[j]! = u := ⟨_, rfl⟩
        rw [eu] at c0 c1 c2 hcall HSet HKj
        rw [eu] at HKeep
        obtain ⟨q, eq⟩ : ∃ q, clQ G.length u = q := ⟨_, rfl⟩
        obtain ⟨x1, ex1⟩ : ∃ x, (kQ G a u).1 = x := ⟨_, rfl⟩
        obtain ⟨x2, ex2⟩ : ∃ x, (kQ G a u).2 = x := ⟨_, rfl⟩
        rw [eq] at c0 hcall HSet
        rw [ex1] at c1 hcall HSet
        rw [ex2] at c2 hcall HSet
        have HCA := Lib.hid hcall
        have x3 : (0 : Int) ≤ (j : Int) := by omega
        have x4 : (j : Int) < (d.size : Int) := by omega
        have x5 : (0 : Int) ≤ (i : Int) := by omega
        have x6 : (i : Int) < (d.size : Int) := by omega
        clear eu eq ex1 ex2 hWr hcall
        go_upto_region 8 with fail
        obtain ⟨w8, ew8⟩ : ∃ w8, wr.alloc (.cells #[.int .i64 (q : Int), .int .u64 x1, .int .i64 x2] 81) = w8 := ⟨_, rfl⟩
        obtain ⟨bx, ebx⟩ : ∃ b, wr.heap.size = b := ⟨_, rfl⟩
        have hz8 : Whole w8 bx 81 #[.int .i64 (q : Int), .int .u64 x1, .int .i64 x2] := by rw [← ew8, ← ebx]; exact Whole.new wr _ _
        have hW8 : Whole w8 blk 81 cc := by rw [← ew8]; exact HWr.out.alloc _
        have hT8 : Turn [blk] w w8 := by rw [← ew8]; exact HT.out.alloc _
        have HBX : Hid (blk < bx) := Lib.hid (by rw [← ebx]; exact HWr.out.lt)
        rw [ew8, ebx]
        clear ew8 ebx c0 c1 c2
        have y0 := hz8.cell 0
        have y1 := hz8.cell 1
        have y2 := hz8.cell 2
        have HC8 := Lib.hid (HCA.out w8 hT8)
        have HZ8 := Lib.hid hz8
        have HW8 := Lib.hid hW8
        have HT8 := Lib.hid hT8
        clear hz8 hW8 hT8
        go_wp2_with fail
        refine HC8.out.mono ?_
        rintro e w9 ⟨rfl, b9⟩
        dsimp only
        clear y0 y1 y2
        have HW9 := Lib.hid (HW8.out.below b9 HW8.out.lt)
        have HT9 : Hid (Turn [blk] w w9) := Lib.hid (HT8.out.trans (Turn.of_below b9) (fun x hx => by simp at hx))
        have hz9 := HZ8.out.below b9 HZ8.out.lt
        have HZ9 := Lib.hid hz9
        clear b9 HC8
        cases hq : pd u with
        | true =>
          have HI2 : Hid (KeptInv kp d (j + 1) i dk) := Lib.hid (HSkip.out (by rw [HKj.out, hq]; rfl))
          clear hq hz9
          go_wp2
          go_roundw
          case rel => exact ⟨i, j + 1, dk, cc, rfl, by go_num, by omega, HW9, HCr, HSr, HI2, HT9⟩
          case measure => simp [intOf]; omega
        | false =>
          have HI2 : Hid (KeptInv kp d (j + 1) (i + 1) (dk.setIfInBounds i u)) := Lib.hid (HKeep.out (by rw [HKj.out, hq]; rfl))
          have y0 := hz9.cell 0
          have y1 := hz9.cell 1
          have y2 := hz9.cell 2
          have k0' := (HW9.out.cell (i * 3)).trans HO0.out
          have k1' := (HW9.out.cell (i * 3 + 1)).trans HO1.out
          have k2' := (HW9.out.cell (i * 3 + 2)).trans HO2.out
          have f0 := HW9.out.frozen (i * 3)
          have f1 := HW9.out.frozen (i * 3 + 1)
          have f2 := HW9.out.frozen (i * 3 + 2)
          clear hq hz9
          go_wp2
          go_roundw
          case rel =>
            refine ⟨i + 1, j + 1, dk.setIfInBounds i u, _, by go_num, by go_num, by omega, Lib.hid (((HW9.out.set (i * 3) _).set (i * 3 + 1) _).set (i * 3 + 2) _), Lib.hid (by simpa using HCr.out), HSet, HI2, Lib.hid (((HT9.out.setCell (p := ⟨blk, i * 3, none⟩) (.inl (by simp)) _).setCell (p := ⟨blk, i * 3 + 1, none⟩) (.inl (by simp)) _).setCell (p := ⟨blk, i * 3 + 2, none⟩) (.inl (by simp)) _)⟩
          case measure => simp [intOf]; omega
      · obtain rfl : j = d.size := by omega
        have e5 : decide ((d.size : Int) < (d.size : Int)) = false := decide_eq_false (by omega)
        have hi : i < d.size := hij
        have hic : (cap : Nat) ≠ i := by omega
        have hcl : ∀ ty, ∃ vs, (Builtin.clear_ #[76] ty #[.slice (some ⟨blk, i * 3, none⟩) (d.size - i) (cap - i)]).run Tryz.prog wr = .ok (.tuple #[]) (wr.setCells blk (i * 3) vs) := fun ty =>
          run_clear3 wr _ _ ty _ (.int .i64 0) (.int .u64 0) (.int .i64 0) Tryz.underlying76 Tryz.zeroValue81 rfl rfl rfl rfl blk (i * 3) (d.size - i) _ (by omega) cc _ HWr.out (by have := HCr.out; omega)
        obtain ⟨vs, hcl⟩ := hcl 0
        have hiz : (i : Int) ≤ (cap : Int) := by omega
        go_wp2
        go_ret
        obtain ⟨cs', hw', hsz', hlow, htn⟩ := whole_setCells vs (i * 3) wr cc HWr.out
        have hkl := HI.out.len
        refine ⟨by rw [hkl]; rfl, ⟨cs', hw', hsz'.trans HCr.out, fun j hj => ?_⟩, HT.out.trans htn (fun x hx => .inl hx)⟩
        have hj' : j < i := by rw [← hkl]; simpa using hj
        have hlo := HI.out.low j hj'
        have e6 : (keptUpTo kp d d.size).toArray[j]! = dk[j]! := by
          rw [getElem!_pos _ j (by simpa using hj)]
          have : (keptUpTo kp d d.size)[j]? = some ((keptUpTo kp d d.size)[j]'(by rw [hkl]; exact hj')) := List.getElem?_eq_getElem _
          rw [this] at hlo
          simpa using hlo
        rw [e6]
        obtain ⟨q0, q1, q2⟩ := HSr.out j (by omega)
        exact ⟨(hlow _ (by omega)).trans q0, (hlow _ (by omega)).trans q1, (hlow _ (by omega)).trans q2⟩
end Go.Proofs.YtfokejlancmahaaGreat
