/- An iterator that itself ranges over an iterator: its contract (what it is handed may be told of new blocks that are no cells), and the caller's law for it. Over any program. -/
import Derived.RangeFuncNested
namespace Go.Proofs.YtkmngbkghgelfaaGreat
open Go.RowKit
set_option linter.unusedVariables false

/-- Blocks of cells that a rule names lie as they lay. -/
structure Keeps (K : Nat → TypeId → Prop) (W W' : World) : Prop where
  size : W.heap.size ≤ W'.heap.size
  same : ∀ k cs t fr, K k t → W.heap[k]? = some (.cells cs t fr) → W'.heap[k]? = some (.cells cs t fr)
theorem Keeps.refl (K : Nat → TypeId → Prop) (W : World) : Keeps K W W := ⟨Nat.le_refl _, fun _ _ _ _ _ h => h⟩
theorem Keeps.trans {K : Nat → TypeId → Prop} {A B C : World} (h : Keeps K A B) (k : Keeps K B C) : Keeps K A C := ⟨Nat.le_trans h.size k.size, fun i cs t fr hK hi => k.same i cs t fr hK (h.same i cs t fr hK hi)⟩
/-- The law's own book-keeping turns no cells. -/
theorem Keeps.put {K : Nat → TypeId → Prop} (W : World) (l : Nat) (o o' : Obj) (h : W.heap[l]? = some o) (hc : o.isCells = false) : Keeps K W (W.putObj l o') :=
  ⟨by simp, fun k cs t fr hK hk => by
    by_cases e : k = l
    · subst e; rw [h] at hk; cases hk; cases hc
    · exact (World.putObj_heap_other e).trans hk⟩
theorem Keeps.alloc (K : Nat → TypeId → Prop) (W : World) (o : Obj) : Keeps K W (W.alloc o) := ⟨by simp, fun k cs t fr _ h => (Below.heap_alloc W o k (Array.getElem?_eq_some_iff.1 h).1).trans h⟩
theorem Keeps.drew (K : Nat → TypeId → Prop) (W : World) : Keeps K W W.drew := ⟨Nat.le_refl _, fun _ _ _ _ _ h => h⟩
theorem Keeps.of_grown {K : Nat → TypeId → Prop} {W W' : World} {row : Option Nat} (h : W.grownBy W' row) (hr : ∀ r cs t fr, row = some r → W.heap[r]? = some (.cells cs t fr) → ¬ K r t) : Keeps K W W' :=
  ⟨h.size, fun k cs t fr hK hk => (h.block k (Array.getElem?_eq_some_iff.1 hk).1 (fun e => hr k cs t fr e.symm hk hK)).trans hk⟩

theorem OwnFrom.more {β : Type} {B B' : Nat} {I : β → World → Prop} (h : OwnFrom B I) (hB : B ≤ B') : OwnFrom B' I := fun s W W' row hs hg hr => h s W W' row hs hg (fun r e => by have := hr r e; exact ⟨by omega, this.2⟩)
theorem OwnFrom.comap {β γ : Type} {B : Nat} {I : β → World → Prop} (h : OwnFrom B I) (f : γ → β) : OwnFrom B (fun s W => I (f s) W) := fun s W W' row hs hg hr => h (f s) W W' row hs hg hr
theorem KeepsFrom.more {B B' : Nat} {W W' : World} (h : KeepsFrom B W W') (hB : B ≤ B') : KeepsFrom B' W W' := ⟨h.size, fun k o hk => h.same k o (by omega)⟩
theorem KeepsFrom.put {B : Nat} (W : World) (l : Nat) (o' : Obj) (hl : l < B) : KeepsFrom B W (W.putObj l o') := ⟨by simp, fun k o hk h _ => (World.putObj_heap_other (by omega)).trans h⟩

/-- The contract of an iterator that may lay, and turn, blocks of its own that are no cells: its round tells that what is no cells, beyond the loop's record, lies as it lay. -/
def SeqO {α : Type} (F : Fence) (n : Nat) (P : Program) (g : Nat) (lb : Array Value) (encs : α → Array Value) (Kp : World → World → Prop) (S Sp : List α → Prop) (N : Nat) (w : World) : Prop :=
  ∀ (l : Nat) (J Jx : List α → World → Prop) (W : World), Below w.heap.size w W → l < W.heap.size → OwnFrom W.heap.size J → OwnFrom W.heap.size Jx →
    (∀ pre x W1, J pre W1 → pre.length < N → YieldAt F (n - 1) P l (encs x) W1 fun e W' => KeepsFrom (l + 1) W1 W' ∧
      ((e = .returned (.bool true) ∧ J (pre ++ [x]) W' ∧ Kp W1 W') ∨ (e = .returned (.bool false) ∧ Jx (pre ++ [x]) W'))) →
    J [] W →
    CallsIn F n P g (#[.func (.yield l) #[] #[]] ++ lb) W fun e W' => (∃ v, e = .returned v) ∧ ((∃ xs, S xs ∧ J xs W') ∨ (∃ pre, Sp pre ∧ Jx pre W'))

variable {F : Fence} {n : Nat} {P : Program}

/-- The two blocks of a loop, in the state st, with a jump pending or none. -/
def Book (R : LoopState → Option Code → Loop) (D : Nat) (st : LoopState) (pe : Option Code) (W : World) : Prop := W.heap[D + 1]? = some (.loop (R st pe)) ∧ W.heap[D]? = some (.deferred (some []))
theorem Book.own {β : Type} (R : LoopState → Option Code → Loop) (D B : Nat) (hB : D + 1 < B) (st : LoopState) (pe : β → Option Code) : OwnFrom B (fun s W => Book R D st (pe s) W) := fun s W W' row hs hg hr =>
  ⟨(hg.block _ (Array.getElem?_eq_some_iff.1 hs.1).1 (fun e => by have := (hr _ e.symm).1; omega)).trans hs.1, (hg.block _ (Array.getElem?_eq_some_iff.1 hs.2).1 (fun e => by have := (hr _ e.symm).1; omega)).trans hs.2⟩
theorem Book.put {R : LoopState → Option Code → Loop} {D : Nat} {st : LoopState} {pe : Option Code} {W : World} (h : Book R D st pe W) (st' : LoopState) (pe' : Option Code) : Book R D st' pe' (W.putObj (D + 1) (.loop (R st' pe'))) :=
  ⟨World.putObj_heap_same (Array.getElem?_eq_some_iff.1 h.1).1, (World.putObj_heap_other (by omega)).trans h.2⟩

/-- One round. -/
theorem one_round {α : Type} {ps : Array Tmp} {assign body : Code} {tmps : Array Value} {fn : FuncId} (hfn : F.fn fn) {encs : α → Array Value} {Kp : World → World → Prop}
    (R : LoopState → Option Code → Loop) (D B : Nat) (hB : B ≤ D) (hR : R = fun st pe => { state := st, pending := pe, fn, tmps, params := ps, assign, body, defers := D })
    (hKt : ∀ {A B C : World}, Kp A B → Kp B C → Kp A C) (hKb : ∀ (W : World) (l : Nat) (o o' : Obj), B ≤ l → W.heap[l]? = some o → o.isCells = false → o.isWalk = false → Kp W (W.putObj l o'))
    (I : List α → World → Prop) (Ix : Code → List α → World → Prop) (hI : OwnFrom B I) (hIx : ∀ c, OwnFrom B (Ix c)) (pre : List α) (x : α) (hps : (encs x).size = ps.size) (a₁ : Act) (m : Nat) (W : World)
    (hassign : ∀ (K : Act → World → Prop), K a₁ W → assign.wpIn (F.inRound (D + 1)) m P (Exit.then K (fun _ _ _ => False)) { tmps := (ps.zip (encs x)).foldl (fun t (p, v) => t.setIfInBounds p v) tmps, defers := [] } W)
    (hbody : ∀ W, I pre W → body.wpIn (F.inRound (D + 1)) m P (ownPostG B Kp I Ix (pre ++ [x]) W) a₁ W)
    (hi : I pre W) (hb : Book R D .ready none W) :
    YieldAt F m P (D + 1) (encs x) W fun e W' => KeepsFrom (D + 1 + 1) W W' ∧
      ((e = .returned (.bool true) ∧ (I (pre ++ [x]) W' ∧ Book R D .ready none W') ∧ Kp W W') ∨ (e = .returned (.bool false) ∧ ∃ c, Ix c (pre ++ [x]) W' ∧ Book R D .done (some c) W')) := by
  have hy := run_yield (P := P) (args := encs x) hb.1 (by rw [hR]; exact hps)
  rw [hR] at hy
  refine ⟨fn, _, assign, body, hy, roundIn_of_wpIn hfn (hassign _ ⟨_, run_beginRound hb.1 (by rw [hR]), ?_⟩)⟩
  have e0 : ({ R .ready none with state := .busy } : Loop) = R .busy none := by rw [hR]
  rw [e0]
  have hb2 := hb.put .busy none
  have hk2 : Kp W (W.putObj (D + 1) (.loop (R .busy none))) := hKb _ _ _ _ (by omega) hb.1 rfl rfl
  have hf2 : KeepsFrom (D + 1 + 1) W (W.putObj (D + 1) (.loop (R .busy none))) := KeepsFrom.put _ _ _ (by omega)
  have hi2 : I pre (W.putObj (D + 1) (.loop (R .busy none))) := hI.putObj _ hi (by omega) hb.1 rfl
  revert hb2 hk2 hf2 hi2
  generalize W.putObj (D + 1) (.loop (R .busy none)) = W2
  intro hb2 hk2 hf2 hi2
  have back : ∀ (jump : Option Code) (W3 : World), KeepsFrom B W2 W3 → Book R D .busy none W3 ∧
      (Instr.endRound (D + 1) jump).run P W3 = .ok (.bool jump.isNone) (W3.putObj (D + 1) (.loop (R (if jump.isNone then .ready else .done) jump))) := fun jump W3 hk => by
    have h3 : Book R D .busy none W3 := ⟨hk.same _ _ (by omega) hb2.1 rfl, hk.same _ _ (by omega) hb2.2 rfl⟩
    have := run_endRound (P := P) jump h3.1
    rw [hR] at this ⊢
    exact ⟨by rw [hR] at h3; exact h3, this⟩
  have far : ∀ (o : Obj) (W3 : World), KeepsFrom B W2 W3 → KeepsFrom (D + 1 + 1) W (W3.putObj (D + 1) o) := fun o W3 hk => (hf2.trans (KeepsFrom.more hk (by omega))).trans (KeepsFrom.put _ _ _ (by omega))
  have out : ∀ (c : Code) (W3 : World), KeepsFrom B W2 W3 → Ix c (pre ++ [x]) W3 → ∃ v w', (Instr.endRound (D + 1) (some c)).run P W3 = .ok v w' ∧ (KeepsFrom (D + 1 + 1) W w' ∧
      ((Ending.returned v = .returned (.bool true) ∧ (I (pre ++ [x]) w' ∧ Book R D .ready none w') ∧ Kp W w') ∨ (Ending.returned v = .returned (.bool false) ∧ ∃ c, Ix c (pre ++ [x]) w' ∧ Book R D .done (some c) w'))) := fun c W3 hk hx => by
    obtain ⟨h3, hr⟩ := back (some c) W3 hk
    exact ⟨_, _, hr, far _ _ hk, .inr ⟨rfl, c, (hIx c).putObj _ hx (by omega) h3.1 rfl, h3.put _ _⟩⟩
  refine wpIn_mono (hbody W2 hi2) ?_
  rintro e a3 W3 hp
  cases e with
  | normal =>
    obtain ⟨h3, hr⟩ := back none W3 hp.1
    exact ⟨_, _, hr, far _ _ hp.1, .inl ⟨rfl, ⟨hI.putObj _ hp.2.2 (by omega) h3.1 rfl, h3.put _ _⟩, hKt (hKt hk2 hp.2.1) (hKb _ _ _ _ (by omega) h3.1 rfl rfl)⟩⟩
  | ret => exact out .ret W3 hp.1 hp.2
  | exit id => exact out (.exit id) W3 hp.1 hp.2
  | goto t => exact out (.goto t) W3 hp.1 hp.2
  | panic ch => exact hp.elim
  | outgrown => exact hp.elim

/-- The caller's law. -/
theorem wpIn_rangeFunc_O {α : Type} {g : Operand} {ps : Array Tmp} {assign body : Code} {Q : Exit → Act → World → Prop} {a : Act} {w : World}
    (hro : F.round = none) (h1 : 1 ≤ n) {gf : Nat} {lb : Array Value} (hg : a.eval g = .func (.func gf) #[] lb) (hFg : F.fn gf) (eg : ∀ args w, (callFunc gf args).run P w = .ok (.enter gf args) w)
    {encs : α → Array Value} {Kp : World → World → Prop} {S Sp : List α → Prop} {N : Nat} {w0 : World} (hseq : SeqO F (n - 1) P gf lb encs Kp S Sp N w0)
    (hKt : ∀ {A B C : World}, Kp A B → Kp B C → Kp A C) (hKb : ∀ (W : World) (l : Nat) (o o' : Obj), w.heap.size ≤ l → W.heap[l]? = some o → o.isCells = false → o.isWalk = false → Kp W (W.putObj l o'))
    (hb0 : Below w0.heap.size w0 w) (hps : ∀ x, (encs x).size = ps.size)
    (I : List α → World → Prop) (Ix : Code → List α → World → Prop) (hI : OwnFrom w.heap.size I) (hIx : ∀ c, OwnFrom w.heap.size (Ix c)) (h0 : I [] w) (a₁ : α → Act)
    (hassign : ∀ (l : Nat) (x : α) (W : World) (K : Act → World → Prop), K (a₁ x) W →
      assign.wpIn (F.inRound l) (n - 1 - 1) P (Exit.then K (fun _ _ _ => False)) { tmps := (ps.zip (encs x)).foldl (fun t (p, v) => t.setIfInBounds p v) a.tmps, defers := [] } W)
    (hbody : ∀ (l : Nat) (pre : List α) (x : α) (W : World), I pre W → pre.length < N → body.wpIn (F.inRound l) (n - 1 - 1) P (ownPostG w.heap.size Kp I Ix (pre ++ [x]) W) (a₁ x) W)
    (hdone : ∀ (D : Nat) (xs : List α) (W : World), w.heap.size ≤ D → S xs → I xs W → W.heap[D]? = some (.deferred (some [])) → Q .normal { a with defers := { target := .collected D, args := #[] } :: a.defers } W)
    (hstop : ∀ (D : Nat) (c : Code) (pre : List α) (W : World), w.heap.size ≤ D → Sp pre → Ix c pre W → W.heap[D]? = some (.deferred (some [])) → c.wpIn F n P Q { a with defers := { target := .collected D, args := #[] } :: a.defers } W) :
    (Code.rangeFunc g ps assign body).wpIn F n P Q a w := by
  refine wpIn_rangeFunc fun fn hfn => ?_
  rw [hro]
  obtain ⟨R, hR⟩ : ∃ R : LoopState → Option Code → Loop, R = fun st pe => { state := st, pending := pe, fn, tmps := a.tmps, params := ps, assign, body, defers := w.heap.size } := ⟨_, rfl⟩
  have hen := run_enterLoop_outer (P := P) (w := w) fn a.tmps ps assign body
  have hI1 := hI.alloc (.loop (R .ready none)) (hI.alloc (.deferred (some [])) h0)
  have hb1 : Below w0.heap.size w0 ((w.alloc (.deferred (some []))).alloc (.loop (R .ready none))) := hb0.trans ((((Below.refl _ w).alloc (Nat.le_refl _) _).alloc (by simp) _).mono hb0.size)
  have hB1 : Book R w.heap.size .ready none ((w.alloc (.deferred (some []))).alloc (.loop (R .ready none))) := by
    refine ⟨?_, (Below.heap_alloc _ _ _ (by simp)).trans (World.alloc_heap_new w _)⟩
    have := World.alloc_heap_new (w.alloc (.deferred (some []))) (.loop (R .ready none))
    rwa [World.size_alloc] at this
  have hs1 : ((w.alloc (.deferred (some []))).alloc (.loop (R .ready none))).heap.size = w.heap.size + 1 + 1 := by simp
  rw [show ({ state := .ready, pending := none, fn, tmps := a.tmps, params := ps, assign, body, defers := w.heap.size } : Loop) = R .ready none by rw [hR]] at hen
  revert hen hI1 hb1 hB1 hs1
  generalize (w.alloc (.deferred (some []))).alloc (.loop (R .ready none)) = W1
  intro hen hI1 hb1 hB1 hs1
  have hend : ∀ (st : LoopState) (pe : Option Code) (W2 : World), st ≠ .busy → Book R w.heap.size st pe W2 → (Instr.endLoop (w.heap.size + 1)).run P W2 = .ok pe (W2.putObj (w.heap.size + 1) (.loop (R .exhausted pe))) := fun st pe W2 hst hb => by
    have := run_endLoop (P := P) hb.1 (by rw [hR]; exact hst)
    rw [hR] at this ⊢
    exact this
  refine ⟨w.heap.size + 1, [{ target := .collected w.heap.size, args := #[] }], W1, { target := .fn (.func gf) lb, args := #[.func (.yield (w.heap.size + 1)) #[] #[]] }, W1, gf,
    #[.func (.yield (w.heap.size + 1)) #[] #[]] ++ lb, W1, hen, ?_, ?_, ?_, fun _ => h1, ?_⟩
  · simp only [resolve, hg]
    simp [go_sem]
  · intro f' hf'; simp [Target.leads] at hf'; subst hf'; exact hFg
  · simp [invoke, go_sem, eg]
  · refine (hseq (w.heap.size + 1) (fun pre W => I pre W ∧ Book R w.heap.size .ready none W) (fun pre W => ∃ c, Ix c pre W ∧ Book R w.heap.size .done (some c) W) W1 hb1 (by omega)
      ((OwnFrom.more hI (by omega)).and (Book.own R w.heap.size _ (by omega) .ready (fun _ => none)))
      (fun s A B row ⟨c, hc, hb⟩ hg' hr => ⟨c, OwnFrom.more (hIx c) (by omega) s A B row hc hg' hr, Book.own R w.heap.size W1.heap.size (by omega) .done (fun _ : Unit => some c) () A B row hb hg' hr⟩)
      (fun pre x W ⟨hi, hb⟩ hlen => one_round (Kp := Kp) hfn R w.heap.size w.heap.size (Nat.le_refl _) hR (fun h k => hKt h k) hKb I Ix hI hIx pre x (hps x) (a₁ x) _ W (fun K hK => hassign _ x W K hK) (fun W' hi' => hbody _ pre x W' hi' hlen) hi hb)
      ⟨hI1, hB1⟩).mono ?_
    rintro e W2 ⟨⟨v, rfl⟩, (⟨xs, hS, hi, hb⟩ | ⟨pre, hSp, c, hi, hb⟩)⟩
    · exact ⟨none, _, hend .ready none W2 (by decide) hb, hdone _ xs _ (Nat.le_refl _) hS (hI.putObj _ hi (by omega) hb.1 rfl) ((World.putObj_heap_other (by omega)).trans hb.2)⟩
    · exact ⟨some c, _, hend .done (some c) W2 (by decide) hb, hstop _ c pre _ (Nat.le_refl _) hSp ((hIx c).putObj _ hi (by omega) hb.1 rfl) ((World.putObj_heap_other (by omega)).trans hb.2)⟩
end Go.Proofs.YtkmngbkghgelfaaGreat
