/- The walks of the statements' own helpers on books of codes: LeftWords. -/
import Derived.Test.YthbimjkcpmffcaaGreatPf
namespace Go.Proofs.YthbimjkcpmffcaaGreat
open Go.RowKit
set_option linter.unusedVariables false
set_option maxRecDepth 100000 in
set_option maxHeartbeats 2000000 in
theorem leftWords_any (P : Int) (g base : Nat) (T : List Pc) (A : Option Addr) (c : Nat) (L : List Pc) (n : Nat) (hn : n = L.length) (w : World) (hT : TwinP w base g 2 T) (hv : words T = words L) (hTl : T.length = L.length) (hx : PGiven w A L) (hs : PSmall L) :
    Calls Tryz.prog 17 #[.agg #[.int .i64 P, .slice (some ⟨g, 0, none⟩) n (n + 2)], .agg #[.int .i64 P, .slice A n c]] w fun e w' => e = .returned (.bool true) ∧ Below w.heap.size w w' := by
  subst hn
  have W1 := (Whole.new w 24 #[.int .i64 P, .slice (some ⟨g, 0, none⟩) L.length (L.length + 2)]).alloc (.cells #[.int .i64 P, .slice A L.length c] 24)
  have W2 : Whole ((w.alloc (.cells #[.int .i64 P, .slice (some ⟨g, 0, none⟩) L.length (L.length + 2)] 24)).alloc (.cells #[.int .i64 P, .slice A L.length c] 24)) (w.heap.size + 1) 24 #[.int .i64 P, .slice A L.length c] := by
    have := Whole.new (w.alloc (.cells #[.int .i64 P, .slice (some ⟨g, 0, none⟩) L.length (L.length + 2)] 24)) 24 #[.int .i64 P, .slice A L.length c]
    simpa using this
  have B0 : Below w.heap.size w ((w.alloc (.cells #[.int .i64 P, .slice (some ⟨g, 0, none⟩) L.length (L.length + 2)] 24)).alloc (.cells #[.int .i64 P, .slice A L.length c] 24)) := below_one (below_one (Below.refl _ _) _) _
  have HT := Lib.hid (hT.below B0)
  have HX := Lib.hid (hx.below B0)
  have HV := Lib.hid hv
  have HTL := Lib.hid hTl
  have HS := Lib.hid hs
  have hlen := hs.len
  have p0 : ((w.alloc (.cells #[.int .i64 P, .slice (some ⟨g, 0, none⟩) L.length (L.length + 2)] 24)).alloc (.cells #[.int .i64 P, .slice A L.length c] 24)).cell? ⟨w.heap.size, 0, none⟩ = some (.int .i64 P) := W1.cell 0
  have p1 : ((w.alloc (.cells #[.int .i64 P, .slice (some ⟨g, 0, none⟩) L.length (L.length + 2)] 24)).alloc (.cells #[.int .i64 P, .slice A L.length c] 24)).cell? ⟨w.heap.size, 1, none⟩ = some (.slice (some ⟨g, 0, none⟩) L.length (L.length + 2)) := W1.cell 1
  have q0 : ((w.alloc (.cells #[.int .i64 P, .slice (some ⟨g, 0, none⟩) L.length (L.length + 2)] 24)).alloc (.cells #[.int .i64 P, .slice A L.length c] 24)).cell? ⟨w.heap.size + 1, 0, none⟩ = some (.int .i64 P) := W2.cell 0
  have q1 : ((w.alloc (.cells #[.int .i64 P, .slice (some ⟨g, 0, none⟩) L.length (L.length + 2)] 24)).alloc (.cells #[.int .i64 P, .slice A L.length c] 24)).cell? ⟨w.heap.size + 1, 1, none⟩ = some (.slice A L.length c) := W2.cell 1
  have BB := Lib.hid B0
  clear hT hv hTl hx hs W1 W2 B0
  have ne : (P != P) = false := by simp
  have nl : ((L.length : Int) != (L.length : Int)) = false := by simp
  go_enter Tryz.func17, Tryz.ntmps17
  go_wp2
  obtain ⟨w1, e1⟩ : ∃ w1, (w.alloc (.cells #[.int .i64 P, .slice (some ⟨g, 0, none⟩) L.length (L.length + 2)] 24)).alloc (.cells #[.int .i64 P, .slice A L.length c] 24) = w1 := ⟨_, rfl⟩
  rw [e1] at HT HX BB p0 p1 q0 q1
  rw [e1]
  clear e1
  go_loopw [5] (fun i wr => ∃ k nq : Nat, k ≤ L.length ∧ i = .int .i64 k ∧ Hid (wr = w1.drewN nq)) (fun i _ => L.length - (intOf i).toNat)
  case atStart => exact ⟨0, 0, by omega, rfl, rfl⟩
  case round =>
    obtain ⟨k, nq0, hk, rfl, hwr⟩ := hrel
    have bw : Below w1.heap.size w1 wr := by rw [hwr.out]; exact below_drewN (Below.refl _ _) nq0
    have p1' : wr.cell? ⟨w.heap.size, 1, none⟩ = some (.slice (some ⟨g, 0, none⟩) L.length (L.length + 2)) := by rw [hwr.out]; exact p1
    have q1' : wr.cell? ⟨w.heap.size + 1, 1, none⟩ = some (.slice A L.length c) := by rw [hwr.out]; exact q1
    have hsz : wr.heap.size = w1.heap.size := by rw [hwr.out]; rfl
    by_cases hlt : k < L.length
    · have eL : decide ((k : Int) < (L.length : Int)) = true := decide_eq_true (by omega)
      obtain ⟨b, off, a1, c1, M, hA, hBk, hck, hG, hRo, hv1⟩ := (HX.out.below bw).at_ hlt
      rw [hA] at q1'
      have hT' := HT.out.below bw
      have hkt : k < T.length := by rw [HTL.out]; exact hlt
      have HTK := Lib.hid (List.getElem?_eq_getElem hkt)
      obtain ⟨⟨ta, tc, N⟩, ex⟩ : ∃ x, T[k] = x := ⟨_, rfl⟩
      rw [ex] at HTK
      obtain ⟨hcap, gt, hgt, -, hTV⟩ := hT'.twin _ (List.mem_of_getElem? HTK.out)
      have hcap : tc = N.length + 2 := hcap
      have hgt : ta = some ⟨gt, 0, none⟩ := hgt
      have hTV : TwinV wr base gt 2 N := hTV
      have tv : vecs N = vecs M := by
        have h1 := words_at HTK.out
        rw [HV.out, words_at hv1.out] at h1
        injection h1 with h1
        exact h1.symm
      have tl : N.length = M.length := by rw [← vecs_len, tv, vecs_len]
      subst hcap hgt
      have t1 : wr.cell? ⟨g, k, none⟩ = some (.slice (some ⟨gt, 0, none⟩) N.length (N.length + 2)) := (hT'.row.cell k).trans (cellsR_at HTK.out)
      rw [tl] at t1
      have sm := HS.out.at_ (List.mem_of_getElem? hv1.out)
      have LE := Lib.hid (fun q => leftVecs_any gt base N a1 c1 M _ rfl (wr.drewN q) (hTV.below (below_drewN (Below.refl _ wr) q)) tv (hG.rd.below (below_drewN (Below.refl _ wr) q)) hRo sm.len (fun v h => sm.vec h))
      have g1 : (0 : Int) ≤ (k : Int) := by omega
      have g2 : (k : Int) < (L.length : Int) := by omega
      clear hG hRo hT' hTV tv tl ex sm hv1 hA HTK
      go_wp2
      go_quiet ((go_at_call 29; with_reducible exact Calls.quiet_of (LE.out _)))
      go_wp2
      go_roundw
      case rel => exact ⟨k + 1, _, by omega, by go_num, Lib.hid (by rw [hwr.out, World.drewN_drewN])⟩
      case measure => simp [intOf]; omega
    · obtain rfl : k = L.length := by omega
      have eL : decide ((L.length : Int) < (L.length : Int)) = false := decide_eq_false (by omega)
      have free : ∀ q, q < 2 → wr.cell? ⟨g, L.length + q, none⟩ = some (.slice none 0 0) := fun q hq => by
        have := ((HT.out.below bw).row.cell (T.length + q)).trans (cellsR_free hq)
        rw [HTL.out] at this; exact this
      have HF := Lib.hid free
      have HBE := Lib.hid (BB.out.trans (bw.mono BB.out.size))
      clear free bw hwr
      go_wp2
      go_loop [7] (fun i => ∃ q : Nat, q ≤ 2 ∧ i = .int .i64 ((L.length + q : Nat) : Int)) (fun i => L.length + 2 - (intOf i).toNat)
      case atStart => exact ⟨0, by omega, rfl⟩
      case round =>
        obtain ⟨q, hq, rfl⟩ := hrel
        by_cases hq2 : q < 2
        · have f := HF.out q hq2
          obtain ⟨z, ez⟩ : ∃ z, L.length + q = z := ⟨_, rfl⟩
          rw [ez] at f ⊢
          have hz : z < L.length + 2 := by omega
          have HZ := Lib.hid ez
          clear ez
          go_wp2
          go_round
          case rel => exact ⟨q + 1, by omega, by have := HZ.out; go_num⟩
          case measure => simp [intOf]; omega
        · obtain rfl : q = 2 := by omega
          go_wp2
          go_ret
          exact ⟨rfl, HBE.out⟩
end Go.Proofs.YthbimjkcpmffcaaGreat
