/- The walk of Exact. -/
import Derived.Test.YtkdepoaajhggiaaFg
namespace Go.Proofs.Ytkdepoaajhggiaa
open Go.Shelf Go.RowKit Go.Lib
open Go.Sort hiding Below
set_option linter.unusedVariables false
set_option linter.unusedSimpArgs false
/-- An answer that is a list of hits, and an errno. -/
def HAns (w : World) (xs : HL) (E : Int) (e : Ending) (w' : World) : Prop :=
  ∃ A c, e = .returned (.tuple #[.slice A xs.length c, .int .i64 E]) ∧ w'.ownsRow w.heap.size 42 2 (.slice A xs.length c) xs.length (flatH xs) ∧ Below w.heap.size w w' ∧ (E = 0 → ∃ g, A = some ⟨g, 0, none⟩)
theorem HAns.nil (w : World) (E : Int) (hE : E ≠ 0) {w' : World} (h : Below w.heap.size w w') : HAns w [] E (.returned (.tuple #[.slice none 0 0, .int .i64 E])) w' := ⟨none, 0, rfl, ⟨rfl, .inl ⟨rfl, rfl⟩⟩, h, fun e => absurd e hE⟩
theorem whole_rowH {w : World} {g base n : Nat} {t : TypeId} {xs : HL} (h : Whole w g t (flatH xs).toArray) (hn : n ≤ xs.length) (hb : base ≤ g) (hm : xs.length ≤ 9223372036854775807) : w.ownsRow base t 2 (.slice (some ⟨g, 0, none⟩) n xs.length) n (flatH (xs.take n)) := by
  refine ⟨by rw [flatH_len, List.length_take]; omega, .inr ⟨g, xs.length, (flatH xs).toArray, rfl, hb, h, hn, hm, by simp [flatH_len], ?_⟩⟩
  rw [List.toList_toArray]
  conv => lhs; rw [← List.take_append_drop n xs, flatH_app]
  rw [List.take_left']
  rw [flatH_len, List.length_take]; omega
theorem widB_nat {k : Int} (h : widB k = true) : 1 ≤ k.toNat ∧ k.toNat ≤ 256 ∧ ((k.toNat : Nat) : Int) = k := by
  have := of_decide_eq_true h; omega
theorem exactB_eq (G : List Pn) (s : Int) (v : List Int) (k : Int) : exactB G s v k = (mayS G s v && widB k) := rfl
/-- Behind so many nodes that came. -/
def Comes (E : Se) (b : Nat) (k : Nat) (w wr : World) : Prop := ∃ F, SrAt E wr b F ((List.range k).foldl (comeP E.G E.v E.m) ⟨[], [], []⟩) ∧ Below E.base w wr
set_option maxRecDepth 100000 in
set_option maxHeartbeats 8000000 in
theorem exact_any (A : Option Addr) (c : Nat) (L : List Gn) (s : Int) (B : Option Addr) (q : Nat) (v : List Int) (k : Int) (w : World) (hx : GArg w A L) (hv : Rd .i8 w w.heap.size B v) (bv : ∀ n ∈ v, -128 ≤ n ∧ n ≤ 127) :
    Calls Try.prog 14 #[.agg #[.slice A L.length c, .int .i64 s], .slice B v.length q, .int .i64 k] w (HAns w (exactH (pns L) s v k) (errG (exactB (pns L) s v k))) := by
  have HX := Lib.hid hx
  have B0 : Below w.heap.size w (w.alloc (.cells #[.slice A L.length c, .int .i64 s] 24)) := below_one (Below.refl _ _) _
  have HW0 := Lib.hid (Whole.new w 24 #[.slice A L.length c, .int .i64 s])
  have HB0 := Lib.hid B0
  have HVV := Lib.hid hv
  have HBV := Lib.hid bv
  cases hB : exactB (pns L) s v k with
  | false =>
    have e1 : exactH (pns L) s v k = [] := by unfold exactH; rw [hB]; rfl
    have HNS := Lib.hid (fun W (h : GArg W A L) => newS_no A c L s B q v k W h hB)
    rw [e1, show errG false = 1 from rfl]
    clear hx hv bv B0 hB e1
    go_enter Try.func14, Try.ntmps14
    go_upto_region 1 with fail
    obtain ⟨w0, ew0⟩ : ∃ w0, w.alloc (.cells #[.slice A L.length c, .int .i64 s] 24) = w0 := ⟨_, rfl⟩
    rw [ew0] at HW0 HB0 ⊢
    have y0 := HW0.out.cell 0
    have y1 := HW0.out.cell 1
    clear ew0
    go_wp2_with fail
    refine (HNS.out w0 (HX.out.below HB0.out)).mono ?_
    rintro e w1 ⟨rfl, b1⟩
    dsimp only
    clear y0 y1
    go_wp2
    go_ret2
    exact HAns.nil _ _ (by decide) (HB0.out.trans (b1.mono HB0.out.size))
  | true =>
    have hB2 := hB
    rw [exactB_eq, Bool.and_eq_true] at hB2
    obtain ⟨hmay, hw⟩ := hB2
    obtain ⟨m, hm, hm1, hm2⟩ : ∃ m : Nat, k = m ∧ 1 ≤ m ∧ m ≤ 256 := by
      obtain ⟨h1, h2, h3⟩ := widB_nat hw
      exact ⟨k.toNat, h3.symm, h1, h2⟩
    subst hm
    have HMS := Lib.hid (mayS_yes hmay)
    have HEX : Hid (exactH (pns L) s v (m : Int) = (srt (hlP (pns L) v (List.range (pns L).length))).take m) := Lib.hid (by unfold exactH; rw [hB]; rfl)
    have HNS := Lib.hid (fun W (h : GArg W A L) => newS_yes A c L s B q v m W h hmay hm1 hm2)
    have HPL := Lib.hid (pns_len L)
    have hL48 : L.length ≤ 2048 := by rw [← HPL.out]; exact HMS.out.ho.1
    have HM1 := Lib.hid hm1
    have HM2 := Lib.hid hm2
    obtain ⟨ys, eys⟩ : ∃ ys, exactH (pns L) s v (m : Int) = ys := ⟨_, rfl⟩
    rw [eys] at HEX
    rw [show errG true = 0 from rfl, eys]
    clear eys hx hv bv B0 hB hmay hw hm1 hm2
    go_enter Try.func14, Try.ntmps14
    go_upto_region 1 with fail
    obtain ⟨w0, ew0⟩ : ∃ w0, w.alloc (.cells #[.slice A L.length c, .int .i64 s] 24) = w0 := ⟨_, rfl⟩
    obtain ⟨g0, eg0⟩ : ∃ g0, w.heap.size = g0 := ⟨_, rfl⟩
    rw [ew0] at HW0 HB0 ⊢
    have HGG := Lib.hid eg0
    rw [eg0] at HW0
    rw [show (Value.pointer (some ⟨w.heap.size, 0, none⟩) : Value) = .pointer (some ⟨g0, 0, none⟩) by rw [eg0]]
    have y0 := HW0.out.cell 0
    have y1 := HW0.out.cell 1
    clear ew0 eg0
    go_wp2_with fail
    refine (HNS.out w0 (HX.out.below HB0.out)).mono ?_
    rintro e w1 ⟨b, F, rfl, hS, b1⟩
    dsimp only
    have HE : Hid (∀ W, Below w0.heap.size w0 W → SEnv ⟨pns L, v, m, A, c, B, q, w0.heap.size⟩ L s W) := Lib.hid (fun W h =>
      ⟨(HX.out.below HB0.out).rd.below h, ((HVV.out.below HB0.out).more HB0.out.size).below h, rfl, HMS.out, HX.out.ok, HBV.out, HM1.out, HM2.out, h.size⟩)
    have HCM : Hid (Comes ⟨pns L, v, m, A, c, B, q, w0.heap.size⟩ b 0 w0 w1) := Lib.hid ⟨F, hS, b1⟩
    have z1 := (HW0.out.below b1 HW0.out.lt).cell 0
    clear y0 y1 hS b1
    go_wp2
    go_loopw [10, 24] (fun _ i wr => ∃ j : Nat, j ≤ L.length ∧ i = .int .i64 j ∧ Hid (Comes ⟨pns L, v, m, A, c, B, q, w0.heap.size⟩ b j w0 wr)) (fun _ i _ => L.length - (intOf i).toNat)
    case atStart => exact ⟨0, by omega, rfl, HCM⟩
    case round =>
      clear HCM z1
      obtain ⟨j, hj, rfl, HCM⟩ := hrel
      by_cases hlt : j < L.length
      · have e1 : decide ((j : Int) < (L.length : Int)) = true := decide_eq_true (by omega)
        obtain ⟨F', hS, hBw⟩ := HCM.out
        have hok : OkS (pns L) v m ((List.range j).foldl (comeP (pns L) v m) ⟨[], [], []⟩) := OkS.comes (s := s) HMS.out.nd HM1.out _ (OkS.nil _ _ _) (fun p hp => by have := List.mem_range.1 hp; rw [HPL.out]; omega)
        have HC : Hid (Calls Try.prog 21 #[.pointer (some ⟨b, 0, none⟩), .int .i64 (j : Int)] wr fun e w' => (∃ r, e = .returned (.bool r)) ∧ Comes ⟨pns L, v, m, A, c, B, q, w0.heap.size⟩ b (j + 1) w0 w') := Lib.hid ((come_any _ L s wr b F' _ hS (HE.out wr hBw) hok j (by show j < (pns L).length; rw [HPL.out]; exact hlt)).mono (fun e w' hh => by
          obtain ⟨h1, F2, h2, h3, h4⟩ := hh
          refine ⟨⟨_, h1⟩, F2, ?_, hBw.trans (h3.below (fun f hf => (hS.fpt f hf).1) hBw.size)⟩
          show SrAt _ w' b F2 ((List.range (j + 1)).foldl (comeP (pns L) v m) ⟨[], [], []⟩)
          rw [List.range_succ, List.foldl_append]
          exact h2))
        clear hS hBw hok HCM
        go_wp2_with (go_at_call 21; refine HC.out.mono ?_; rintro e w4 ⟨⟨r, rfl⟩, hL4⟩; have HL4 := Lib.hid hL4; clear hL4)
        go_roundw
        case rel => exact ⟨j + 1, by omega, by go_num, HL4⟩
        case measure => simp [intOf]; omega
      · obtain rfl : j = L.length := by omega
        have e1 : decide ((L.length : Int) < (L.length : Int)) = false := decide_eq_false (by omega)
        obtain ⟨F', ⟨g, hb, oA, oc, hS, hgb, hF⟩, hBw⟩ := HCM.out
        have hall := (all_come (G := pns L) (v := v) HMS.out.nd HM1.out L.length (by rw [HPL.out]; exact Nat.le_refl _)).2
        have hhp : HeapIs wr hb g.FH m (hlP (pns L) v ((List.range L.length).foldl (comeP (pns L) v m) ⟨[], [], []⟩).ps) := hS.heap
        rw [hall] at hhp
        subst hgb
        have y0 : wr.cell? ⟨g.b, 0, none⟩ = some (.pointer (some ⟨hb, 0, none⟩)) := hS.blk.cell 0
        have HH := Lib.hid (hHits_any hb g.FH m _ wr hhp)
        have HLE : Hid (((srt (hlP (pns L) v (List.range L.length))).take m).length ≤ 256) := Lib.hid (by rw [List.length_take]; have := HM2.out; omega)
        have HBW := Lib.hid hBw
        rw [HPL.out] at HEX
        have hex := HEX.out
        rw [← hex] at HH HLE
        clear hex hS hF hBw hall hhp HCM
        go_wp2_with (go_at_call 23; refine HH.out.mono ?_; rintro e w5 ⟨gg, rfl, hW5, hg5, t5⟩)
        go_ret2
        have hs0 := HB0.out.size
        have hsw := HBW.out.size
        refine ⟨some ⟨gg, 0, none⟩, ys.length, rfl, ?_, HB0.out.trans ((HBW.out.trans ((turn_nil t5).mono hsw)).mono hs0), fun _ => ⟨gg, rfl⟩⟩
        have := whole_rowH (base := w.heap.size) (n := ys.length) hW5 (Nat.le_refl _) (by omega) (by have := HLE.out; omega)
        rwa [List.take_of_length_le (Nat.le_refl _)] at this
end Go.Proofs.Ytkdepoaajhggiaa
