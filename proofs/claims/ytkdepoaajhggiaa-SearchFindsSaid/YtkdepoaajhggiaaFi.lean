/- A range over an iterator that reads what the loop's body turns: the iterator's contract, and the caller's law for it. Over any program. -/
import Derived.Test.YtkdepoaajhggiaaSo
import Derived.RangeFuncBound
namespace Go.Proofs.Ytkdepoaajhggiaa
open Go.RowKit
set_option linter.unusedVariables false
/-- Blocks that are named lie as they lay. -/
def KeepZ (Z : List Nat) (W W' : World) : Prop := W.heap.size ≤ W'.heap.size ∧ ∀ z ∈ Z, z < W.heap.size → W'.heap[z]? = W.heap[z]?
/-- The contract: what is told and turned goes by J, which names blocks that no round turns; a block of the iterator's own may be named. -/
def SeqZ {α : Type} (F : Fence) (n : Nat) (P : Program) (g : Nat) (lb : Array Value) (encs : α → Array Value) (K : List Nat → List α → World → Prop) (T : List α → α → Prop) (S : List α → Prop) (Z0 : List Nat) (w : World) : Prop :=
  ∀ (l : Nat) (J : List Nat → List α → World → Prop) (Jx : List α → World → Prop) (W : World), Below w.heap.size w W → l < W.heap.size → (∀ Z pre W1, J Z pre W1 → K Z pre W1) →
    (∀ Z Z2 pre W1 W2, J Z pre W1 → Below W1.heap.size W1 W2 → (∀ z ∈ Z2, z ∈ Z ∨ W1.heap.size ≤ z ∧ z < W2.heap.size) → J Z2 pre W2) →
    (∀ Z pre x W1, J Z pre W1 → T pre x → YieldAt F (n - 1) P l (encs x) W1 fun e W' =>
      (e = .returned (.bool true) ∧ J Z (pre ++ [x]) W' ∧ Keeps (fun k _ => k ∈ Z) W1 W') ∨ (e = .returned (.bool false) ∧ Jx (pre ++ [x]) W')) →
    J Z0 [] W →
    CallsIn F n P g (#[.func (.yield l) #[] #[]] ++ lb) W fun e W' => (∃ v, e = .returned v) ∧ ((∃ xs, S xs ∧ J [] xs W') ∨ (∃ pre, Jx pre W'))
/-- What the body leaves. -/
def postZ {α : Type} (Z : List Nat) (I : List Nat → List α → World → Prop) (Ix : Code → List Nat → List α → World → Prop) (xs : List α) (W : World) : Exit → Act → World → Prop
  | .normal, _, W' => KeepZ Z W W' ∧ I Z xs W'
  | .ret, _, W' => KeepZ Z W W' ∧ Ix .ret Z xs W'
  | .exit id, _, W' => KeepZ Z W W' ∧ Ix (.exit id) Z xs W'
  | .goto t, _, W' => KeepZ Z W W' ∧ Ix (.goto t) Z xs W'
  | .panic _, _, _ => False
  | .outgrown, _, _ => False

variable {F : Fence} {n : Nat} {P : Program}
theorem Book.keepZ {R : LoopState → Option Code → Loop} {D : Nat} {st : LoopState} {pe : Option Code} {W W' : World} (h : Book R D st pe W) {Z : List Nat} (k : KeepZ Z W W') (h1 : D ∈ Z) (h2 : D + 1 ∈ Z) : Book R D st pe W' :=
  ⟨(k.2 _ h2 (Array.getElem?_eq_some_iff.1 h.1).1).trans h.1, (k.2 _ h1 (Array.getElem?_eq_some_iff.1 h.2).1).trans h.2⟩
/-- One round. -/
theorem one_roundZ {α : Type} {ps : Array Tmp} {assign body : Code} {tmps : Array Value} {fn : FuncId} (hfn : F.fn fn) {encs : α → Array Value}
    (R : LoopState → Option Code → Loop) (D : Nat) (hR : R = fun st pe => { state := st, pending := pe, fn, tmps := tmps, params := ps, assign, body, defers := D })
    (I : List Nat → List α → World → Prop) (Ix : Code → List Nat → List α → World → Prop) (hIp : ∀ Z pre W l L o', I Z pre W → l ∈ Z → W.heap[l]? = some (.loop L) → I Z pre (W.putObj l o')) (hXp : ∀ c Z pre W l L o', Ix c Z pre W → l ∈ Z → W.heap[l]? = some (.loop L) → Ix c Z pre (W.putObj l o'))
    (Z : List Nat) (pre : List α) (x : α) (hps : (encs x).size = ps.size) (a₁ : Act) (m : Nat) (W : World)
    (hassign : ∀ (K : Act → World → Prop), ∀ W, K a₁ W → assign.wpIn (F.inRound (D + 1)) m P (Exit.then K (fun _ _ _ => False)) { tmps := (ps.zip (encs x)).foldl (fun t (p, v) => t.setIfInBounds p v) tmps, defers := [] } W)
    (hbody : ∀ W, I (D :: (D + 1) :: Z) pre W → body.wpIn (F.inRound (D + 1)) m P (postZ (D :: (D + 1) :: Z) I Ix (pre ++ [x]) W) a₁ W)
    (hi : I (D :: (D + 1) :: Z) pre W) (hb : Book R D .ready none W) :
    YieldAt F m P (D + 1) (encs x) W fun e W' =>
      ((e = .returned (.bool true) ∧ (I (D :: (D + 1) :: Z) (pre ++ [x]) W' ∧ Book R D .ready none W') ∧ Keeps (fun k _ => k ∈ Z) W W') ∨ (e = .returned (.bool false) ∧ ∃ c, Ix c (D :: (D + 1) :: Z) (pre ++ [x]) W' ∧ Book R D .done (some c) W')) := by
  have hy := run_yield (P := P) (args := encs x) hb.1 (by rw [hR]; exact hps)
  rw [hR] at hy
  refine ⟨fn, _, assign, body, hy, roundIn_of_wpIn hfn (hassign _ _ ⟨_, run_beginRound hb.1 (by rw [hR]), ?_⟩)⟩
  have e0 : ({ R .ready none with state := .busy } : Loop) = R .busy none := by rw [hR]
  rw [e0]
  have hb2 := hb.put .busy none
  have hi2 := hIp _ _ _ (D + 1) _ (.loop (R .busy none)) hi (by simp) hb.1
  have hk2 : Keeps (fun k _ => k ∈ Z) W (W.putObj (D + 1) (.loop (R .busy none))) := Keeps.put _ _ _ _ hb.1 rfl
  revert hb2 hi2 hk2
  generalize W.putObj (D + 1) (.loop (R .busy none)) = W2
  intro hb2 hi2 hk2
  have back : ∀ (jump : Option Code) (W3 : World), KeepZ (D :: (D + 1) :: Z) W2 W3 → Book R D .busy none W3 ∧
      (Instr.endRound (D + 1) jump).run P W3 = .ok (.bool jump.isNone) (W3.putObj (D + 1) (.loop (R (if jump.isNone then .ready else .done) jump))) := fun jump W3 hk => by
    have h3 : Book R D .busy none W3 := hb2.keepZ hk (by simp) (by simp)
    have := run_endRound (P := P) jump h3.1
    rw [hR] at this ⊢
    exact ⟨by rw [hR] at h3; exact h3, this⟩
  have out : ∀ (c : Code) (W3 : World), KeepZ (D :: (D + 1) :: Z) W2 W3 → Ix c (D :: (D + 1) :: Z) (pre ++ [x]) W3 → ∃ v w', (Instr.endRound (D + 1) (some c)).run P W3 = .ok v w' ∧
      ((Ending.returned v = .returned (.bool true) ∧ (I (D :: (D + 1) :: Z) (pre ++ [x]) w' ∧ Book R D .ready none w') ∧ Keeps (fun k _ => k ∈ Z) W w') ∨ (Ending.returned v = .returned (.bool false) ∧ ∃ c, Ix c (D :: (D + 1) :: Z) (pre ++ [x]) w' ∧ Book R D .done (some c) w')) := fun c W3 hk hx => by
    obtain ⟨h3, hr⟩ := back (some c) W3 hk
    exact ⟨_, _, hr, .inr ⟨rfl, c, hXp _ _ _ _ _ _ _ hx (by simp) h3.1, h3.put _ _⟩⟩
  refine wpIn_mono (hbody W2 hi2) ?_
  rintro e a3 W3 hp
  cases e with
  | normal =>
    obtain ⟨h3, hr⟩ := back none W3 hp.1
    have hk3 : Keeps (fun k _ => k ∈ Z) W2 W3 := ⟨hp.1.1, fun k cs t fr hK hk => (hp.1.2 k (by simp [hK]) (Array.getElem?_eq_some_iff.1 hk).1).trans hk⟩
    exact ⟨_, _, hr, .inl ⟨rfl, ⟨hIp _ _ _ _ _ _ hp.2 (by simp) h3.1, h3.put _ _⟩, (hk2.trans hk3).trans (Keeps.put _ _ _ _ h3.1 rfl)⟩⟩
  | ret => exact out .ret W3 hp.1 hp.2
  | exit id => exact out (.exit id) W3 hp.1 hp.2
  | goto t => exact out (.goto t) W3 hp.1 hp.2
  | panic ch => exact hp.elim
  | outgrown => exact hp.elim
/-- The caller's law. -/
theorem wpIn_rangeFunc_Z {α : Type} {g : Operand} {ps : Array Tmp} {assign body : Code} {Q : Exit → Act → World → Prop} {a : Act} {w : World}
    (hro : F.round = none) (h1 : 1 ≤ n) {gf : Nat} {lb : Array Value} (hg : a.eval g = .func (.func gf) #[] lb) (hFg : F.fn gf) (eg : ∀ args w, (callFunc gf args).run P w = .ok (.enter gf args) w)
    {encs : α → Array Value} {K : List Nat → List α → World → Prop} {T : List α → α → Prop} {S : List α → Prop} {Z0 : List Nat} {w0 : World} (hseq : SeqZ F (n - 1) P gf lb encs K T S Z0 w0)
    (hb0 : Below w0.heap.size w0 w) (hps : ∀ x, (encs x).size = ps.size)
    (I : List Nat → List α → World → Prop) (Ix : Code → List Nat → List α → World → Prop) (hIK : ∀ Z pre W, I Z pre W → K Z pre W)
    (hIb : ∀ Z Z2 pre W1 W2, I Z pre W1 → Below W1.heap.size W1 W2 → (∀ z ∈ Z2, z ∈ Z ∨ W1.heap.size ≤ z ∧ z < W2.heap.size) → I Z2 pre W2)
    (hIp : ∀ Z pre W l L o', I Z pre W → l ∈ Z → W.heap[l]? = some (.loop L) → I Z pre (W.putObj l o')) (hXp : ∀ c Z pre W l L o', Ix c Z pre W → l ∈ Z → W.heap[l]? = some (.loop L) → Ix c Z pre (W.putObj l o')) (h0 : I Z0 [] w) (a₁ : α → Act)
    (hKZ : ∀ Z Z2 pre W, (∀ z ∈ Z2, z ∈ Z) → K Z pre W → K Z2 pre W)
    (hassign : ∀ (l : Nat) (x : α) (W : World) (K : Act → World → Prop), K (a₁ x) W →
      assign.wpIn (F.inRound l) (n - 1 - 1) P (Exit.then K (fun _ _ _ => False)) { tmps := (ps.zip (encs x)).foldl (fun t (p, v) => t.setIfInBounds p v) a.tmps, defers := [] } W)
    (hbody : ∀ (l : Nat) (Z : List Nat) (pre : List α) (x : α) (W : World), I Z pre W → T pre x → body.wpIn (F.inRound l) (n - 1 - 1) P (postZ Z I Ix (pre ++ [x]) W) (a₁ x) W)
    (hdone : ∀ (xs : List α) (W : World), S xs → I [] xs W → W.heap[w.heap.size]? = some (.deferred (some [])) → Q .normal { a with defers := { target := .collected w.heap.size, args := #[] } :: a.defers } W)
    (hstop : ∀ (c : Code) (Z : List Nat) (pre : List α) (W : World), Ix c Z pre W → W.heap[w.heap.size]? = some (.deferred (some [])) → c.wpIn F n P Q { a with defers := { target := .collected w.heap.size, args := #[] } :: a.defers } W) :
    (Code.rangeFunc g ps assign body).wpIn F n P Q a w := by
  refine wpIn_rangeFunc fun fn hfn => ?_
  rw [hro]
  obtain ⟨R, hR⟩ : ∃ R : LoopState → Option Code → Loop, R = fun st pe => { state := st, pending := pe, fn, tmps := a.tmps, params := ps, assign, body, defers := w.heap.size } := ⟨_, rfl⟩
  have hen := run_enterLoop_outer (P := P) (w := w) fn a.tmps ps assign body
  have hbW : Below w.heap.size w ((w.alloc (.deferred (some []))).alloc (.loop (R .ready none))) := ((Below.refl _ w).alloc (Nat.le_refl _) _).alloc (by simp) _
  have hI1 := hIb Z0 (w.heap.size :: (w.heap.size + 1) :: Z0) [] w _ h0 hbW (fun z hz => by
    rcases List.mem_cons.1 hz with rfl | hz
    · exact .inr (by simp only [World.size_alloc]; omega)
    · rcases List.mem_cons.1 hz with rfl | hz
      · exact .inr (by simp only [World.size_alloc]; omega)
      · exact .inl hz)
  have hb1 : Below w0.heap.size w0 ((w.alloc (.deferred (some []))).alloc (.loop (R .ready none))) := hb0.trans (hbW.mono hb0.size)
  have hB1 : Book R w.heap.size .ready none ((w.alloc (.deferred (some []))).alloc (.loop (R .ready none))) := by
    refine ⟨?_, (Below.heap_alloc _ _ _ (by simp)).trans (World.alloc_heap_new w _)⟩
    have := World.alloc_heap_new (w.alloc (.deferred (some []))) (.loop (R .ready none))
    rwa [World.size_alloc] at this
  have hs1 : ((w.alloc (.deferred (some []))).alloc (.loop (R .ready none))).heap.size = w.heap.size + 1 + 1 := by simp
  rw [show ({ state := .ready, pending := none, fn, tmps := a.tmps, params := ps, assign, body, defers := w.heap.size } : Loop) = R .ready none by rw [hR]] at hen
  revert hen hI1 hb1 hB1 hs1
  clear hbW
  generalize (w.alloc (.deferred (some []))).alloc (.loop (R .ready none)) = W1
  intro hen hI1 hb1 hB1 hs1
  have hend : ∀ (st : LoopState) (pe : Option Code) (W2 : World), st ≠ .busy → Book R w.heap.size st pe W2 → (Instr.endLoop (w.heap.size + 1)).run P W2 = .ok pe (W2.putObj (w.heap.size + 1) (.loop (R .exhausted pe))) := fun st pe W2 hst hb => by
    have := run_endLoop (P := P) hb.1 (by rw [hR]; exact hst)
    rw [hR] at this ⊢
    exact this
  refine ⟨w.heap.size + 1, [{ target := .collected w.heap.size, args := #[] }], W1, { target := .fn (.func gf) lb, args := #[.func (.yield (w.heap.size + 1)) #[] #[]] }, W1, gf,
    #[.func (.yield (w.heap.size + 1)) #[] #[]] ++ lb, W1, hen, ?_, ?_, ?_, fun _ => h1, ?_⟩
  · simp only [resolve, hg]
    simp [go_sem]
  · intro f' hf'; simp [Target.leads] at hf'; subst hf'; exact hFg
  · simp [invoke, go_sem, eg]
  · refine (hseq (w.heap.size + 1) (fun Z pre W => I (w.heap.size :: (w.heap.size + 1) :: Z) pre W ∧ Book R w.heap.size .ready none W) (fun pre W => ∃ c Z, w.heap.size ∈ Z ∧ w.heap.size + 1 ∈ Z ∧ Ix c Z pre W ∧ Book R w.heap.size .done (some c) W) W1 hb1 (by omega)
      (fun Z pre W h => hKZ _ _ _ _ (fun z hz => by simp [hz]) (hIK _ _ _ h.1))
      (fun Z Z2 pre A B h hAB hZ => ⟨hIb _ _ _ _ _ h.1 hAB (fun z hz => by
        rcases List.mem_cons.1 hz with rfl | hz
        · exact .inl (by simp)
        · rcases List.mem_cons.1 hz with rfl | hz
          · exact .inl (by simp)
          · rcases hZ z hz with h2 | h2
            · exact .inl (by simp [h2])
            · exact .inr h2), ⟨(hAB.block _ (Array.getElem?_eq_some_iff.1 h.2.1).1).trans h.2.1, (hAB.block _ (Array.getElem?_eq_some_iff.1 h.2.2).1).trans h.2.2⟩⟩)
      (fun Z pre x W ⟨hi, hb⟩ ht => ?_)
      ⟨hI1, hB1⟩).mono ?_
    · refine YieldAt.mono (one_roundZ hfn R w.heap.size hR I Ix hIp hXp Z pre x (hps x) (a₁ x) (n - 1 - 1) W (fun K W hK => hassign _ x W K hK) (fun W' hi' => hbody _ _ pre x W' hi' ht) hi hb) ?_
      rintro e W' (⟨h3, h4, h5⟩ | ⟨h3, c, h4, h5⟩)
      · exact .inl ⟨h3, h4, h5⟩
      · exact .inr ⟨h3, c, _, by simp, by simp, h4, h5⟩
    rintro e W2 ⟨⟨v, rfl⟩, (⟨xs, hS, hi, hb⟩ | ⟨pre, c, Z, hz1, hz2, hi, hb⟩)⟩
    · exact ⟨none, _, hend .ready none W2 (by decide) hb, hdone xs _ hS (hIb _ _ _ _ _ (hIp _ _ _ _ _ _ hi (by simp) hb.1) (Below.refl _ _) (by simp)) ((World.putObj_heap_other (by omega)).trans hb.2)⟩
    · exact ⟨some c, _, hend .done (some c) W2 (by decide) hb, hstop c Z pre _ (hXp _ _ _ _ _ _ _ hi hz2 hb.1) ((World.putObj_heap_other (by omega)).trans hb.2)⟩
end Go.Proofs.Ytkdepoaajhggiaa
