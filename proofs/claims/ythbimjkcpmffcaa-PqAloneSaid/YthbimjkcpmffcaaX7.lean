/- The walk of PqAlone. -/
import Derived.Test.YthbimjkcpmffcaaX4
import Derived.Test.YthbimjkcpmffcaaWt
namespace Go.Proofs.Ythbimjkcpmffcaa
open Go.RowKit
set_option linter.unusedVariables false
theorem col_take {ws : List (List Int)} {p k : Nat} {u : List Int} (h : ws[k]? = some u) : (colL ws p).take (k + 1) = (colL ws p).take k ++ [[u[p]?.getD 0]] := by
  rw [List.take_add_one]
  congr 1
  unfold colL
  rw [List.getElem?_map, h]
  rfl
theorem col_len (ws : List (List Int)) (p : Nat) : (colL ws p).length = ws.length := by simp [colL]
theorem col_b8 {ws : List (List Int)} {p d : Nat} (h : B8 ws) (hd : ∀ u ∈ ws, u.length = d) (hp : p < d) : B8 (colL ws p) := fun u hu x hx => by
  unfold colL at hu
  obtain ⟨v, hv, rfl⟩ := List.mem_map.1 hu
  rw [List.mem_singleton] at hx
  subst hx
  have hl := hd v hv
  rw [List.getElem?_eq_getElem (by omega)]
  exact h v hv _ (List.getElem_mem _)
def manyK (ws : List (List Int)) (k : Nat) : List (List (List Int)) := (List.range k).map (colL ws)
theorem manyK_succ (ws : List (List Int)) (k : Nat) : manyK ws (k + 1) = manyK ws k ++ [colL ws k] := by simp [manyK, List.range_succ]
theorem manyK_zero (ws : List (List Int)) : manyK ws 0 = [] := rfl
theorem manyK_len (ws : List (List Int)) (k : Nat) : (manyK ws k).length = k := by simp [manyK]
theorem manyK_at (ws : List (List Int)) {d p : Nat} (h : p < d) : pAt (manyK ws d) p = colL ws p := by simp [pAt, manyK, h]
theorem many_size {ws : List (List Int)} {d : Nat} (h : BookOk (manyK ws d) d) (hk : ws.length ≤ 64) : sizeP (manyK ws d) ≤ 20000 := by
  rw [book_size h (k := ws.length) (fun p hp => by rw [manyK_len] at hp; rw [manyK_at ws hp, col_len]), manyK_len]
  have h1 := h.2.1
  have h2 := Nat.mul_le_mul h1 hk
  have h3 := Nat.mul_comm ws.length d
  omega
theorem many_b8 {ws : List (List Int)} {d : Nat} (h : B8 ws) (hd : ∀ u ∈ ws, u.length = d) : B88 (manyK ws d) := fun l hl => by
  unfold manyK at hl
  obtain ⟨p, hp, rfl⟩ := List.mem_map.1 hl
  exact col_b8 h hd (List.mem_range.1 hp)
theorem whole_row1 {w : World} {g : Nat} {x : Value} {t : TypeId} (h : Whole w g t #[x]) (base : Nat) (hb : base ≤ g) : w.ownsRow base t 1 (.slice (some ⟨g, 0, none⟩) 1 1) 1 [x] :=
  ⟨rfl, .inr ⟨g, 1, #[x], rfl, hb, h, Nat.le_refl _, by decide, rfl, rfl⟩⟩
/-- One list of vectors as a book of one part. -/
theorem one_parts {w : World} {B : Nat} {A : Option Addr} {c g : Nat} {L : List Vc} (h : w.cell? ⟨g, 0, none⟩ = some (.slice A L.length c)) (hg : g < B) (hr : RdV w B A L) : RdP w B (some ⟨g, 0, none⟩) [(A, c, L)] := fun _ => by
  refine ⟨g, 0, rfl, hg, fun i hi => ?_⟩
  obtain rfl : i = 0 := by simpa using hi
  exact ⟨h, hr⟩
set_option maxRecDepth 100000 in
set_option maxHeartbeats 4000000 in
theorem pqAlone_main (hC : PqCheckSpec) (hE : PqEncodeSpec) (hD : PqDecodeSpec) (hT : PqTableSpec) (hL : PqLookSpec) (hN : NearSpec) (A : Option Addr) (c : Nat) (L : List Vc) (B : Option Addr) (d : Nat) (v : List Int) (w : World) (hx : Given w A L) (hv : GivenV w B d v) :
    Calls Try.prog 10 #[.slice A L.length c, .slice B v.length d] w fun e w' => e = .returned (.bool true) ∧ Below w.heap.size w w' := by
  have AL := Lib.hid (fun w => alive8_any hC hE hD hT hL w)
  have HE := Lib.hid hE
  have HN := Lib.hid hN
  have HX := Lib.hid hx
  have HV := Lib.hid hv
  have HVL := Lib.hid (vecs_len L)
  clear hC hE hD hT hL hN hx hv
  go_enter Try.func10, Try.ntmps10
  go_wp2_with fail
  refine (AL.out _).mono ?_
  rintro e w1 ⟨rfl, b1⟩
  have HX1 := Lib.hid (HX.out.below b1)
  have HV1 := Lib.hid (HV.out.below b1)
  have C1 := Lib.hid b1
  clear HX HV b1
  dsimp only
  by_cases hl0 : L.length = 0
  · have e1 : ((L.length : Int) == 0) = true := beq_iff_eq.2 (by omega)
    clear hl0
    go_wp2_with fail
    refine (AL.out _).mono ?_
    rintro e w9 ⟨rfl, b9⟩
    go_wp2
    go_ret
    exact ⟨rfl, C1.out.trans (b9.mono C1.out.size)⟩
  have e1 : ((L.length : Int) == 0) = false := by rw [beq_eq_false_iff_ne]; omega
  by_cases hl1 : 64 < L.length
  · have e2 : decide ((64 : Int) < (L.length : Int)) = true := decide_eq_true (by omega)
    clear hl0
    clear hl1
    go_wp2_with fail
    refine (AL.out _).mono ?_
    rintro e w9 ⟨rfl, b9⟩
    go_wp2
    go_ret
    exact ⟨rfl, C1.out.trans (b9.mono C1.out.size)⟩
  have e2 : decide ((64 : Int) < (L.length : Int)) = false := decide_eq_false (by omega)
  obtain ⟨l, el⟩ : ∃ l, v.length = l := ⟨_, rfl⟩
  rw [el]
  by_cases hl2 : l = 0
  · have e3 : ((l : Int) == 0) = true := beq_iff_eq.2 (by omega)
    clear hl0 hl1 el
    clear hl2
    go_wp2_with fail
    refine (AL.out _).mono ?_
    rintro e w9 ⟨rfl, b9⟩
    go_wp2
    go_ret
    exact ⟨rfl, C1.out.trans (b9.mono C1.out.size)⟩
  have e3 : ((l : Int) == 0) = false := by rw [beq_eq_false_iff_ne]; omega
  by_cases hl3 : 64 < l
  · have e4 : decide ((64 : Int) < (l : Int)) = true := decide_eq_true (by omega)
    clear hl0 hl1 hl2 el
    clear hl3
    go_wp2_with fail
    refine (AL.out _).mono ?_
    rintro e w9 ⟨rfl, b9⟩
    go_wp2
    go_ret
    exact ⟨rfl, C1.out.trans (b9.mono C1.out.size)⟩
  have e4 : decide ((64 : Int) < (l : Int)) = false := decide_eq_false (by omega)
  have HEL := Lib.hid el
  have hK : 1 ≤ L.length ∧ L.length ≤ 64 := by omega
  have hl : 1 ≤ l ∧ l ≤ 64 := by omega
  clear hl0 hl1 hl2 hl3 el
  go_wp2
  go_loop [5] (fun i => ∃ k : Nat, k ≤ L.length ∧ i = .int .i64 k ∧ Hid (∀ j u, j < k → (vecs L)[j]? = some u → u.length = l)) (fun i => L.length - (intOf i).toNat)
  case atStart => exact ⟨0, by omega, rfl, (fun j u hj => absurd hj (Nat.not_lt_zero _) : ∀ j u, j < 0 → (vecs L)[j]? = some u → u.length = l)⟩
  case round =>
    obtain ⟨k, hk, rfl, HK⟩ := hrel
    by_cases hlt : k < L.length
    · have eL : decide ((k : Int) < (L.length : Int)) = true := decide_eq_true (by omega)
      obtain ⟨b, off, a1, c1, u, rfl, hBk, hck, hrd, hu1⟩ := HX1.out.rd.at_ hlt
      have x1 : (0 : Int) ≤ (k : Int) := by omega
      have x2 : (k : Int) < (L.length : Int) := by omega
      clear hrd
      by_cases heq : u.length = l
      · have e5 : ((u.length : Int) != (l : Int)) = false := by simp; omega
        have HK2 : Hid (∀ j u, j < k + 1 → (vecs L)[j]? = some u → u.length = l) := Lib.hid (fun j u' hj hu => by
          rcases Nat.lt_or_ge j k with h | h
          · exact HK.out j u' h hu
          · obtain rfl : j = k := by omega
            rw [vecs_at hu1.out] at hu
            injection hu with hu
            rw [← hu]; exact heq)
        clear hu1 HK heq
        go_wp2
        go_round
        case rel => exact ⟨k + 1, by omega, by go_num, HK2⟩
        case measure => simp [intOf]; omega
      · have e5 : ((u.length : Int) != (l : Int)) = true := by simp; omega
        clear hu1 HK heq
        go_wp2
        go_ret
        exact ⟨rfl, C1.out⟩
    · obtain rfl : k = L.length := by omega
      have eL : decide ((L.length : Int) < (L.length : Int)) = false := decide_eq_false (by omega)
      have HALL : Hid (∀ u ∈ vecs L, u.length = l) := Lib.hid (fun u hu => by
        obtain ⟨j, hj⟩ := List.getElem?_of_mem hu
        exact HK.out j u (by have := (List.getElem?_eq_some_iff.1 hj).1; rw [vecs_len] at this; exact this) hj)
      clear HK AL e1 e2 e3 e4
      obtain ⟨ws, ews⟩ : ∃ ws, vecs L = ws := ⟨_, rfl⟩
      have hx2 : Given ((((w1.alloc (.cells #[.slice A L.length c] 70)).alloc (.cells #[.int .i64 1, .slice (some ⟨w1.heap.size, 0, none⟩) 1 1] 24)).alloc (.cells #[.int .i64 l, .slice none 0 0] 24))) A L :=
        HX1.out.below (((below_one (Below.refl _ _) _).trans ((below_one (Below.refl _ _) _).mono (by simp))).trans ((below_one (Below.refl _ _) _).mono (by simp; omega)))
      have hb2 : Below w1.heap.size w1 ((((w1.alloc (.cells #[.slice A L.length c] 70)).alloc (.cells #[.int .i64 1, .slice (some ⟨w1.heap.size, 0, none⟩) 1 1] 24)).alloc (.cells #[.int .i64 l, .slice none 0 0] 24))) :=
        (((below_one (Below.refl _ _) _).trans ((below_one (Below.refl _ _) _).mono (by simp))).trans ((below_one (Below.refl _ _) _).mono (by simp; omega)))
      have q0 : Whole ((((w1.alloc (.cells #[.slice A L.length c] 70)).alloc (.cells #[.int .i64 1, .slice (some ⟨w1.heap.size, 0, none⟩) 1 1] 24)).alloc (.cells #[.int .i64 l, .slice none 0 0] 24))) w1.heap.size 70 #[.slice A L.length c] := ((Whole.new w1 70 _).alloc _).alloc _
      have q1 : Whole ((((w1.alloc (.cells #[.slice A L.length c] 70)).alloc (.cells #[.int .i64 1, .slice (some ⟨w1.heap.size, 0, none⟩) 1 1] 24)).alloc (.cells #[.int .i64 l, .slice none 0 0] 24))) (w1.heap.size + 1) 24 #[.int .i64 1, .slice (some ⟨w1.heap.size, 0, none⟩) 1 1] := by
        have := (Whole.new (w1.alloc (.cells #[.slice A L.length c] 70)) 24 #[.int .i64 1, .slice (some ⟨w1.heap.size, 0, none⟩) 1 1]).alloc (.cells #[.int .i64 l, .slice none 0 0] 24)
        rwa [World.size_alloc] at this
      have q2 : Whole ((((w1.alloc (.cells #[.slice A L.length c] 70)).alloc (.cells #[.int .i64 1, .slice (some ⟨w1.heap.size, 0, none⟩) 1 1] 24)).alloc (.cells #[.int .i64 l, .slice none 0 0] 24))) (w1.heap.size + 1 + 1) 24 #[.int .i64 l, .slice none 0 0] := by
        have := Whole.new ((w1.alloc (.cells #[.slice A L.length c] 70)).alloc (.cells #[.int .i64 1, .slice (some ⟨w1.heap.size, 0, none⟩) 1 1] 24)) 24 #[.int .i64 l, .slice none 0 0]
        rwa [World.size_alloc, World.size_alloc] at this
      have hsz2 : ((((w1.alloc (.cells #[.slice A L.length c] 70)).alloc (.cells #[.int .i64 1, .slice (some ⟨w1.heap.size, 0, none⟩) 1 1] 24)).alloc (.cells #[.int .i64 l, .slice none 0 0] 24))).heap.size = w1.heap.size + 3 := by simp
      go_wp2
      obtain ⟨w2, ew2⟩ : ∃ w2, (((w1.alloc (.cells #[.slice A L.length c] 70)).alloc (.cells #[.int .i64 1, .slice (some ⟨w1.heap.size, 0, none⟩) 1 1] 24)).alloc (.cells #[.int .i64 l, .slice none 0 0] 24)) = w2 := ⟨_, rfl⟩
      rw [ew2] at hx2 hb2 q0 q1 q2 hsz2 ⊢
      obtain ⟨g, eg⟩ : ∃ g, w1.heap.size = g := ⟨_, rfl⟩
      rw [eg] at q0 q1 q2 hsz2 ⊢
      have HB12 := Lib.hid (show Below g w1 w2 by rw [← eg]; exact hb2)
      have HEG := Lib.hid eg
      have C2 := Lib.hid (C1.out.trans (hb2.mono C1.out.size))
      have Q0 := Lib.hid q0
      have Q1 := Lib.hid q1
      have HG2 := Lib.hid hsz2
      rw [ews] at HALL
      have HWS := Lib.hid ews
      have hgw : w.heap.size ≤ g := by rw [← eg]; exact C1.out.size
      -- what the second loop keeps
      have st0 : Hid (Below (g + 2) w2 w2 ∧ ∃ A c T, Whole w2 (g + 1 + 1) 24 #[.int .i64 l, .slice A (T : List Pc).length c] ∧ OwnP w2 (g + 3) A c T ∧ words T = manyK ws 0 ∧ g + 3 ≤ w2.heap.size) := Lib.hid ⟨Below.refl _ _, none, 0, [], q2, OwnP.nil _ _, rfl, by omega⟩
      obtain ⟨i30, hi30, hy30, hz30, hb30⟩ := info_parts info30z
      obtain ⟨i70, hi70, hy70, hz70, hb70⟩ := info_parts info70z
      clear ew2 hx2 hb2 q0 q1 q2 hsz2 eg C1 ews
      go_loopw [8] (fun i wr => ∃ p : Nat, p ≤ l ∧ i = .int .i64 p ∧ Hid (Below (g + 2) w2 wr ∧ ∃ A c T, Whole wr (g + 1 + 1) 24 #[.int .i64 l, .slice A (T : List Pc).length c] ∧ OwnP wr (g + 3) A c T ∧ words T = manyK ws p ∧ g + 3 ≤ wr.heap.size)) (fun i _ => l - (intOf i).toNat)
      case atStart => exact ⟨0, by omega, rfl, st0⟩
      case round =>
        clear st0
        obtain ⟨p, hp, rfl, HS⟩ := hrel
        obtain ⟨W, eWr⟩ : ∃ W, W = wr := ⟨_, rfl⟩
        subst eWr
        by_cases hlt : p < l
        · have eL : decide ((p : Int) < (l : Int)) = true := decide_eq_true (by omega)
          obtain ⟨S2, eS2⟩ : ∃ S2, W.heap.size = S2 := ⟨_, rfl⟩
          have HS2 := Lib.hid eS2
          have hgS : g + 3 ≤ S2 := by rw [← eS2]; exact (HS.out.2.choose_spec.choose_spec.choose_spec).2.2.2
          have x1 : (0 : Int) ≤ (p : Int) := by omega
          have x2 : (p : Int) < (l : Int) := by omega
          clear eS2
          go_wp2
          go_loopw [9, 10] (fun a i wr => ∃ k : Nat, k ≤ L.length ∧ i = .int .i64 k ∧ ∃ A' c' M, a = .slice A' (M : List Vc).length c' ∧ Hid (OwnV wr S2 A' c' M ∧ vecs M = (colL ws p).take k ∧ Below S2 W wr)) (fun _ i _ => L.length - (intOf i).toNat)
          case atStart => exact ⟨0, by omega, rfl, none, 0, [], rfl, ⟨OwnV.nil _ _, rfl, Below.refl _ _⟩⟩
          case round =>
            obtain ⟨k, hk, rfl, A', c', M, rfl, HI⟩ := hrel
            have hMl : M.length = k := by have := congrArg List.length HI.out.2.1; rw [vecs_len, List.length_take, col_len, ← HWS.out, vecs_len] at this; omega
            have HML := Lib.hid hMl
            have hbw : Below g w1 wr := (HB12.out.trans (HS.out.1.mono (by omega))).trans (HI.out.2.2.mono (by omega))
            have HBW := Lib.hid hbw
            by_cases hlk : k < L.length
            · have eK : decide ((k : Int) < (L.length : Int)) = true := decide_eq_true (by omega)
              obtain ⟨b, off, a1, c1, u, rfl, hBk, hck, hrd, hu1⟩ := HX1.out.rd.at_ hlk
              rw [HEG.out] at hBk
              have hul : u.length = l := HALL.out u (by rw [← HWS.out]; exact List.mem_of_getElem? (vecs_at hu1.out))
              rw [HEG.out] at hrd
              obtain ⟨bu, ou, x, rfl, hBu, hcu, hxu⟩ := hrd.at_ (i := p) (by omega)
              have hck2 : wr.cell? ⟨b, off + k, none⟩ = some (.slice (some ⟨bu, ou, none⟩) l c1) := by rw [← hul]; exact (hbw.cell (p := ⟨b, off + k, none⟩) hBk).trans hck
              have hcu2 : wr.cell? ⟨bu, ou + p, none⟩ = some (.int .i8 x) := (hbw.cell (p := ⟨bu, ou + p, none⟩) hBu).trans hcu
              have y1 : (0 : Int) ≤ (k : Int) := by omega
              have y2 : (k : Int) < (L.length : Int) := by omega
              have hsz : S2 ≤ wr.heap.size := HI.out.2.2.size |> fun h => by have := HS2.out; omega
              have hb3 : Below wr.heap.size wr (wr.alloc (.cells #[.int .i8 x] 79)) := below_one (Below.refl _ _) _
              have hO3 := HI.out.1.below hb3
              have hV3 : VOwn (wr.alloc (.cells #[.int .i8 x] 79)) S2 (some ⟨wr.heap.size, 0, none⟩, 1, [x]) := by
                have := whole_row1 (Whole.new wr 79 #[.int .i8 x]) S2 hsz
                exact this
              have HCT := Lib.hid (col_take (p := p) (show ws[k]? = some u by rw [← HWS.out]; exact vecs_at hu1.out))
              have hxv : u[p]?.getD 0 = x := hxu.out
              rw [hxv] at HCT
              have HO3 := Lib.hid hO3
              have HV3 := Lib.hid hV3
              have hKb : k ≤ 64 := by omega
              clear hck hrd hu1 hcu hxu hul hbw hxv hO3 hV3 hMl
              go_wp2_with (first
                | (at_builtin; refine wpList_append_own_at _ rfl _ _ 70 rfl S2 30 i30 (.slice none 0 0) 1 24 Try.underlying70 hi30 hy30 hz30 hb30 rfl (by decide) _ _ _ rfl ((HO3.out.1).alloc _) ⟨wr.heap.size + 1, 0, none⟩ 1 1 [.slice (some ⟨wr.heap.size, 0, none⟩) 1 1] rfl rfl (by have := cell_one_new (wr.alloc (.cells #[.int .i8 x] 79)) (.slice (some ⟨wr.heap.size, 0, none⟩) 1 1) 30; rw [World.size_alloc] at this; exact this) (by simp [Value.oneCell']) (by have := HML.out; show M.length + 1 ≤ 9223372036854775807; omega) (by have := HML.out; omega) (by simp; omega) ?_; intro v' w5 hown' hgrow hnil hloc))
              obtain ⟨A2, c2, e2, o2⟩ := HO3.out.snoc HV3.out hown' hgrow
              have b5 : Below S2 W w5 := ((HI.out.2.2.trans (hb3.mono hsz)).alloc (by simp; omega) (.cells #[.slice (some ⟨wr.heap.size, 0, none⟩) 1 1] 30)).grown hgrow (by simp; omega) (fun b hb => (HO3.out.1.lt b hb).1)
              have hv5 : vecs (M ++ [(some ⟨wr.heap.size, 0, none⟩, 1, [x])]) = (colL ws p).take (k + 1) := by
                rw [vecs_snoc, HI.out.2.1, HCT.out]
              have REL : ∃ A' c' M', v' = .slice A' (M' : List Vc).length c' ∧ Hid (OwnV w5 S2 A' c' M' ∧ vecs M' = (colL ws p).take (k + 1) ∧ Below S2 W w5) := ⟨A2, c2, _, e2, ⟨o2, hv5, b5⟩⟩
              exact ⟨⟨k + 1, by omega, by go_num, REL⟩, by simp [intOf]; omega⟩
            · obtain rfl : k = L.length := by omega
              have eK : decide ((L.length : Int) < (L.length : Int)) = false := decide_eq_false (by omega)
              have hsz : S2 ≤ wr.heap.size := HI.out.2.2.size |> fun h => by have := HS2.out; omega
              obtain ⟨bW, A0, c0, T, hbx, hoP, hwT, hgW⟩ := HS.out
              have hbWr : Below W.heap.size W wr := by rw [HS2.out]; exact HI.out.2.2
              have hoP2 := Lib.hid (hoP.below hbWr)
              have hbx2 := Lib.hid (hbx.below hbWr hbx.lt)
              have k1 : wr.cell? ⟨g + 1 + 1, 1, none⟩ = some (.slice A0 T.length c0) := hbx2.out.cell 1
              have hTl : T.length = p := by have := congrArg List.length hwT; rwa [words_len, manyK_len] at this
              have HTL := Lib.hid hTl
              have HWT := Lib.hid hwT
              have HBW2 := Lib.hid (show Below (g + 2) w2 wr from bW.trans (HI.out.2.2.mono (by omega)))
              have hO3 := HI.out.1
              have hV3 : vecs M = colL ws p := by
                rw [HI.out.2.1, List.take_of_length_le]
                rw [col_len, ← HWS.out, vecs_len]; exact Nat.le_refl _
              have HO3 := Lib.hid hO3
              have HV3 := Lib.hid hV3
              clear hbx hoP hwT hO3 hV3 hMl hbw bW hTl
              go_wp2_with (first
                | (at_builtin; refine wpList_append_own_at _ rfl _ _ 22 rfl (g + 3) 70 i70 (.slice none 0 0) 1 24 Try.underlying22 hi70 hy70 hz70 hb70 rfl (by decide) _ _ _ rfl ((hoP2.out.row).alloc _) ⟨wr.heap.size, 0, none⟩ 1 1 [.slice A' M.length c'] rfl rfl (cell_one_new _ _ _) (by simp [Value.oneCell']) (by have := HTL.out; show T.length + 1 ≤ 9223372036854775807; omega) (by have := HTL.out; omega) (by simp; omega) ?_; intro v' w5 hown' hgrow hnil hloc
                   obtain ⟨va, vm, vc, rfl⟩ := own_form hown'
                   obtain rfl := own_len hown'
                   have z5 : Whole w5 (g + 1 + 1) 24 #[.int .i64 l, .slice A0 T.length c0] := (hgrow.block (g + 1 + 1) (by simp; omega) (fun e => by have := (hoP2.out.row.lt _ e.symm).1; omega)).trans (hbx2.out.alloc _)
                   have c51 : w5.cell? ⟨g + 1 + 1, 1, none⟩ = some (.slice A0 T.length c0) := z5.cell 1
                   have f51 := z5.frozen 1
                   have HZ5 := Lib.hid z5
                   have HO5 := Lib.hid hown'
                   have HG5 := Lib.hid hgrow
                   clear hown' hgrow hnil hloc z5))
              have hrow : ∀ b, (Value.slice A0 T.length c0).ownBlock = some b → g + 3 ≤ b := fun b hb => (hoP2.out.row.lt b hb).1
              have b5 : Below (g + 2) w2 w5 := (HBW2.out.alloc (by omega) (.cells #[.slice A' M.length c'] 70)).grown HG5.out (by simp; omega) (fun b hb => by have := hrow b hb; omega)
              have o5 := hoP2.out.snoc (x := (A', c', M)) (HO3.out.base (by omega)) HO5.out HG5.out
              have bx5 : Whole (w5.setCell ⟨g + 1 + 1, 1, none⟩ (.slice va (T.length + 1) vc)) (g + 1 + 1) 24 #[.int .i64 l, .slice va (T.length + 1) vc] := HZ5.out.set 1 _
              have NXT : Hid (Below (g + 2) w2 (w5.setCell ⟨g + 1 + 1, 1, none⟩ (.slice va (T.length + 1) vc)) ∧ ∃ A c T', Whole (w5.setCell ⟨g + 1 + 1, 1, none⟩ (.slice va (T.length + 1) vc)) (g + 1 + 1) 24 #[.int .i64 l, .slice A (T' : List Pc).length c] ∧ OwnP (w5.setCell ⟨g + 1 + 1, 1, none⟩ (.slice va (T.length + 1) vc)) (g + 3) A c T' ∧ words T' = manyK ws (p + 1) ∧ g + 3 ≤ (w5.setCell ⟨g + 1 + 1, 1, none⟩ (.slice va (T.length + 1) vc)).heap.size) := by
                refine ⟨b5.setCell (p := ⟨g + 1 + 1, 1, none⟩) (Nat.le_refl _) _, va, vc, T ++ [(A', c', M)], by rw [List.length_append, List.length_singleton]; exact bx5, o5.set (by omega), ?_, ?_⟩
                · rw [words_snoc, HWT.out, manyK_succ]
                  show _ ++ [vecs M] = _
                  rw [HV3.out]
                · have := HG5.out.size
                  simp at this
                  simp
                  omega
              exact ⟨⟨p + 1, by omega, by go_num, NXT⟩, by simp [intOf]; omega⟩
        · obtain rfl : p = l := by omega
          have eL : decide ((p : Int) < (p : Int)) = false := decide_eq_false (by omega)
          obtain ⟨bW, A0, c0, T, hbx, hoP, hwT, hgW⟩ := HS.out
          have hTl : T.length = p := by have := congrArg List.length hwT; rwa [words_len, manyK_len] at this
          have hbw : Below g w1 W := HB12.out.trans (bW.mono (by omega))
          have hbw1 : Below w1.heap.size w1 W := by rw [HEG.out]; exact hbw
          have hXW := HX1.out.below hbw1
          have hVW := HV1.out.below hbw1
          have hwsl : ws.length = L.length := by rw [← HWS.out, vecs_len]
          have okO : BookOk [ws] v.length := by rw [HEL.out]; exact one_ok (by omega) (by omega) hl.1 hl.2 HALL.out
          have okM : BookOk (manyK ws p) v.length := by rw [HEL.out]; exact many_ok (by omega) (by omega) hl.1 hl.2
          have hb8 : B8 ws := by rw [← HWS.out]; exact HX1.out.b8
          have hR0 : RdP W W.heap.size (some ⟨g, 0, none⟩) [(A, c, L)] := by
            have h0 : W.cell? ⟨g, 0, none⟩ = some (.slice A L.length c) := (bW.cell (p := ⟨g, 0, none⟩) (by show g < g + 2; omega)).trans (Q0.out.cell 0)
            exact one_parts h0 (by omega) hXW.rd
          have hwo : words [(A, c, L)] = [ws] := by rw [← HWS.out]; rfl
          have hso : sizeP [ws] ≤ 20000 := by
            rw [book_size okO (k := ws.length) (fun q hq => by
              have h0 : q = 0 := by simp at hq; omega
              subst h0
              rfl), HEL.out]
            have h2 := Nat.mul_le_mul (show ws.length ≤ 64 by omega) hl.2
            simp
            omega
          have pO : PArg W (some ⟨g, 0, none⟩) [(A, c, L)] := ⟨hR0, by unfold PSmall; rw [hwo]; exact hso, by rw [hwo]; intro m hm; rw [List.mem_singleton] at hm; rw [hm]; exact hb8⟩
          have pM : PArg W A0 T := ⟨hoP.rd, by unfold PSmall; rw [hwT]; exact many_size (by rw [HEL.out] at okM; exact okM) (by omega), by rw [hwT]; exact many_b8 hb8 HALL.out⟩
          have hv1 : v.length ≤ 1048576 := by rw [HEL.out]; omega
          have bO : bookB 1 [ws] v.length = true := bookB_mk (by simp) okO
          have bM : bookB p (manyK ws p) v.length = true := bookB_mk (by rw [manyK_len]) okM
          have CE1 := Lib.hid (by
            have q := HE.out 1 (some ⟨g, 0, none⟩) 1 [(A, c, L)] B d v W pO (hVW.arg hv1) hVW.room.1
            rw [hwo, bO] at q
            have hea : encA 1 [ws] v = [((nearestI ws v : Nat) : Int)] := by unfold encA; rw [bO, if_pos rfl]; unfold encL; show [((nearestI ws (partAt v 0 1) : Nat) : Int)] = _; rw [part_whole]
            rw [hea, HEL.out] at q
            exact q : Calls Try.prog 32 #[.agg #[.int .i64 1, .slice (some ⟨g, 0, none⟩) 1 1], .slice B p d] W (NAns W .u8 5 [((nearestI ws v : Nat) : Int)] 0))
          have CE2 := Lib.hid (fun W' (hb : Below W.heap.size W W') => (by
            have q := HE.out p A0 c0 T B d v W' (pM.below hb) ((hVW.below hb).arg hv1) hVW.room.1
            rw [hwT, bM] at q
            have hea : encA p (manyK ws p) v = encL (manyK ws p) v := by unfold encA; rw [bM]; rfl
            rw [hea, HEL.out] at q
            exact q : Calls Try.prog 32 #[.agg #[.int .i64 p, .slice A0 T.length c0], .slice B p d] W' (NAns W' .u8 5 (encL (manyK ws p) v) 0)))
          have CN := Lib.hid (fun W' (hb : Below W.heap.size W W') => (by
            have q := HN.out A c L B d v W' ⟨(hXW.below hb).rd, by omega, fun u hu => by have := HALL.out u (by rw [← HWS.out]; exact hu); omega, hXW.b8⟩ ((hVW.below hb).arg hv1)
            have hm : mayM ws [v] = true := by have := okO.mayM (p := 0) (by simp); rwa [show pAt [ws] 0 = ws from rfl, show ([ws] : List (List (List Int))).length = 1 from rfl, part_whole] at this
            rw [HWS.out, hm, show nearA ws v = ((nearestI ws v : Nat) : Int) from by unfold nearA; rw [hm]; rfl, HEL.out] at q
            exact q : Calls Try.prog 35 #[.slice A L.length c, .slice B p d] W' fun e w' => e = .returned (.tuple #[.int .i64 ((nearestI ws v : Nat) : Int), .int .i64 (errE true)]) ∧ Below W'.heap.size W' w'))
          have n64 : nearestI ws v < 64 := by have := nearestI_lt v (show 1 ≤ ws.length by omega); omega
          have HEN := Lib.hid (show (encL (manyK ws p) v).length = p by rw [encL_len, manyK_len])
          have HPM := Lib.hid pM
          have HWT := Lib.hid hwT
          have HTL := Lib.hid hTl
          have HVW := Lib.hid hVW
          have HOKM := Lib.hid okM
          have CW := Lib.hid (show Below w.heap.size w W from C2.out.trans (bW.mono (by omega)))
          have qo0 : W.cell? ⟨g + 1, 0, none⟩ = some (.int .i64 1) := (bW.cell (p := ⟨g + 1, 0, none⟩) (by show g + 1 < g + 2; omega)).trans (Q1.out.cell 0)
          have qo1 : W.cell? ⟨g + 1, 1, none⟩ = some (.slice (some ⟨g, 0, none⟩) 1 1) := (bW.cell (p := ⟨g + 1, 1, none⟩) (by show g + 1 < g + 2; omega)).trans (Q1.out.cell 1)
          have HBX := Lib.hid hbx
          have mixed : Try.prog.follows .mixedOrders = true := by kernel_rfl
          clear bW hbx hoP hwT hgW hTl hbw hbw1 hXW hVW okO okM hb8 hR0 hwo hso pO pM hv1 bO bM HS hwsl
          go_wp2_with fail
          refine CE1.out.mono ?_
          rintro e w3 ⟨A3, c3, rfl, o3, b3⟩
          have m0 : w3.cell? ⟨g + 1 + 1, 0, none⟩ = some (.int .i64 p) := (HBX.out.below b3 HBX.out.lt).cell 0
          have m1 : w3.cell? ⟨g + 1 + 1, 1, none⟩ = some (.slice A0 T.length c0) := (HBX.out.below b3 HBX.out.lt).cell 1
          have R3 := Lib.hid (own_cap o3).2.2
          have B3 := Lib.hid b3
          clear o3 b3 qo0 qo1 CE1
          dsimp only
          go_wp2_with fail
          refine (CE2.out w3 B3.out).mono ?_
          rintro e w4 ⟨A4, c4, rfl, o4, b4⟩
          have R4 := Lib.hid (own_cap o4).2.2
          have R3 := Lib.hid ((R3.out.below b4).more b4.size)
          have B4 := Lib.hid (B3.out.trans (b4.mono B3.out.size))
          have hEl := HEN.out
          obtain ⟨E, eE⟩ : ∃ E, encL (manyK ws p) v = E := ⟨_, rfl⟩
          rw [eE] at HEN R4 hEl ⊢
          have HEE := Lib.hid eE
          rw [hEl]
          have ep : ((p : Int) != (p : Int)) = false := by simp
          clear o4 b4 CE2 eE hEl m0 m1
          dsimp only
          go_wp2_with fail
          refine (CN.out w4 B4.out).mono ?_
          rintro e w5 ⟨rfl, b5⟩
          have R4 := Lib.hid ((R4.out.below b5).more b5.size)
          have R3 := Lib.hid ((R3.out.below b5).more b5.size)
          have B5 := Lib.hid (B4.out.trans (b5.mono B4.out.size))
          obtain ⟨N, eN⟩ : ∃ N, nearestI ws v = N := ⟨_, rfl⟩
          rw [eN] at R3 n64 ⊢
          clear b5 CN eN
          dsimp only
          go_wp2
          go_loopw [17] (fun i wr => ∃ k : Nat, k ≤ p ∧ i = .int .i64 k ∧ Hid (Below w5.heap.size w5 wr)) (fun i _ => p - (intOf i).toNat)
          case atStart => exact ⟨0, by omega, rfl, Below.refl _ _⟩
          case round =>
            obtain ⟨k, hk, rfl, HB⟩ := hrel
            by_cases hlk : k < p
            · have eK : decide ((k : Int) < (p : Int)) = true := decide_eq_true (by omega)
              have hBr : Below W.heap.size W wr := B5.out.trans (HB.out.mono B5.out.size)
              obtain ⟨bT, oT, aM, cM, M, hAT, hbT, hcT, hvM, hMM⟩ := (HPM.out.below hBr).at_ (i := k) (by rw [HTL.out]; exact hlk)
              subst hAT
              have hMv : vecs M = colL ws k := by
                have h1 := words_pAt hMM.out
                rw [HWT.out, manyK_at ws hlk] at h1
                exact h1.symm
              obtain ⟨bv, ov, hBv⟩ := rd_some HVW.out.rd (by rw [HEL.out]; omega)
              subst hBv
              have hroom := HVW.out.room
              rw [HEL.out] at hroom
              have hpe : partAt v k p = [v[k]?.getD 0] := by
                have := part_each (v := v) (p := k) (by rw [HEL.out]; exact hlk)
                rwa [HEL.out] at this
              have hbeg : beg k p p = k ∧ beg (k + 1) p p = k + 1 := ⟨beg_one _ _ hl.1, beg_one _ _ hl.1⟩
              have hsg : Rd .i8 wr wr.heap.size (some ⟨bv, ov + k, none⟩) (partAt v k p) := by
                have h1 := rd_seg (f := beg k p v.length) (t := beg (k + 1) p v.length) HVW.out.rd (by rw [HEL.out, hbeg.2]; omega)
                rw [HEL.out, hbeg.1] at h1
                have h2 := ((h1.below hBr).more hBr.size)
                unfold partAt
                rw [HEL.out, hbeg.1]
                exact h2
              have hkp : k < (manyK ws p).length := by rw [manyK_len]; exact hlk
              have hmm := HOKM.out.mayM hkp
              rw [manyK_at ws hlk, manyK_len] at hmm
              have NC := HN.out aM cM M (some ⟨bv, ov + k, none⟩) (d - k) (partAt v k p) wr.drew (hvM.below (Below.refl _ _).drew) ⟨hsg.below (Below.refl _ _).drew, by rw [hpe]; simp, part_b8 HVW.out.b8⟩
              rw [hMv, hmm, show nearA (colL ws k) (partAt v k p) = ((nearestI (colL ws k) (partAt v k p) : Nat) : Int) from by unfold nearA; rw [hmm]; rfl, show (partAt v k p).length = 1 by rw [hpe]; rfl] at NC
              have HNC := Lib.hid NC
              obtain ⟨bE, oE, x, hAE, hbE, hcE, hxE⟩ := ((R4.out.below HB.out).more HB.out.size).at_ (i := k) (by rw [HEN.out]; exact hlk)
              subst hAE
              have hx : x = ((nearestI (colL ws k) (partAt v k p) : Nat) : Int) := by
                rw [← hxE.out, ← HEE.out]
                unfold encL
                rw [manyK_len, List.getElem?_map, List.getElem?_range hlk]
                show ((nearestI (pAt (manyK ws p) k) (partAt v k p) : Nat) : Int) = _
                rw [manyK_at ws hlk]
              have hcl : 1 ≤ (colL ws k).length ∧ (colL ws k).length ≤ 64 := by rw [col_len]; have h1 := vecs_len L; rw [HWS.out] at h1; omega
              have hn64 : nearestI (colL ws k) (partAt v k p) < 64 := by have := nearestI_lt (partAt v k p) hcl.1; omega
              obtain ⟨n2, en2⟩ : ∃ n2, nearestI (colL ws k) (partAt v k p) = n2 := ⟨_, rfl⟩
              rw [en2] at hx hn64 HNC
              subst hx
              have t0 : wr.drew.cell? ⟨g + 1 + 1, 1, none⟩ = some (.slice (some ⟨bT, oT, none⟩) T.length c0) := (HBX.out.below hBr HBX.out.lt).cell 1
              have t1 : wr.drew.cell? ⟨bT, oT + k, none⟩ = some (.slice aM M.length cM) := hcT
              have y1 : (0 : Int) ≤ (k : Int) := by omega
              have y2 : (k : Int) < (T.length : Int) := by rw [HTL.out]; omega
              have y3 : (k : Int) < (p : Int) := by omega
              have y4 : (k : Int) ≤ (k : Int) + 1 := by omega
              have y5 : (k : Int) + 1 ≤ (d : Int) := by omega
              have y6 : ¬ d = k := by omega
              have w1' : IntKind.i64.wrap (n2 : Int) = (n2 : Int) := by rw [IntKind.wrap_i64]; omega
              have nn : ((n2 : Int) != (n2 : Int)) = false := by simp
              have w2' : IntKind.i64.wrap ((k : Int) + 1) = ((k + 1 : Nat) : Int) := by rw [IntKind.wrap_i64]; omega
              have y7 : (k : Int) ≤ ((k + 1 : Nat) : Int) := by omega
              have y8 : ((k + 1 : Nat) : Int) ≤ (d : Int) := by omega
              have y9 : k ≤ k + 1 := by omega
              have y10 : k + 1 ≤ d := by omega
              clear NC hMv hpe hbeg hsg hmm hxE hcl en2 hMM hvM hcT
              go_wp2
              go_region_with (go_at_call 35; refine HNC.out.mono ?_; rintro e w6 ⟨rfl, b6⟩
                              have hcE6 : w6.cell? ⟨bE, oE + k, none⟩ = some (.int .u8 n2) := (b6.cell (p := ⟨bE, oE + k, none⟩) hbE).trans hcE
                              have B6 := Lib.hid (HB.out.drew.trans (b6.mono HB.out.size))
                              clear b6)
              · go_wp2
                refine ⟨?_, ?measure⟩
                repeat apply Exists.intro
                refine ⟨?rel, rfl⟩
                case rel => exact ⟨k + 1, by omega, by go_num, B6⟩
                case measure => simp [intOf]; omega
            · obtain rfl : k = p := by omega
              have eK : decide ((k : Int) < (k : Int)) = false := decide_eq_false (by omega)
              obtain ⟨b3, o3, x3, rfl, hb3, hc3, hx3⟩ := ((R3.out.below HB.out).more HB.out.size).at_ (i := 0) (by simp)
              have ex3 : x3 = (N : Int) := by have := hx3.out; simpa using this.symm
              subst ex3
              rw [Nat.add_zero] at hc3
              have eNN : ((N : Int) == (N : Int)) = true := by simp
              clear hx3
              go_wp2
              go_ret
              exact ⟨rfl, CW.out.trans ((B5.out.trans (HB.out.mono B5.out.size)).mono CW.out.size)⟩
end Go.Proofs.Ythbimjkcpmffcaa
