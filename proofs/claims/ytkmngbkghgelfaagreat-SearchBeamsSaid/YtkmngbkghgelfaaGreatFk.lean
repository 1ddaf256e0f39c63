/- Several texts in one. -/
import Derived.Test.YtkmngbkghgelfaaGreatSo
import Derived.RangeFuncBound
import Derived.RangeFuncBox
import Derived.RangeFuncNested
import Derived.RangeFuncCalls
import Derived.RangeFuncLeaves
import Derived.Shelf.RegionOpen
import Derived.OwnWalkIn
import Derived.TacticsInMore
import Derived.LoopNIn
import Derived.LoopIn
import Derived.Deep.QuietTactic
import Derived.BigQuiet
import Derived.Test.YtkmngbkghgelfaaGreatFh
import Derived.ScopeJumps
import Derived.WalkMore
import Derived.Laws.EntriesVeiled
/- A range over an iterator that reads what the loop's body turns: the iterator's contract, and the caller's law for it. Over any program. -/
namespace Go.Proofs.YtkmngbkghgelfaaGreat
open Go.RowKit
set_option linter.unusedVariables false
/-- Blocks that are named lie as they lay. -/
def KeepZ (Z : List Nat) (W W' : World) : Prop := W.heap.size ≤ W'.heap.size ∧ ∀ z ∈ Z, z < W.heap.size → W'.heap[z]? = W.heap[z]?
/-- The contract: what is told and turned goes by J, which names blocks that no round turns; a block of the iterator's own may be named. -/
def SeqZ {α : Type} (F : Fence) (n : Nat) (P : Program) (g : Nat) (lb : Array Value) (encs : α → Array Value) (K : List Nat → List α → World → Prop) (T : List α → α → Prop) (S : List α → Prop) (Z0 : List Nat) (w : World) : Prop :=
  ∀ (l : Nat) (J : List Nat → List α → World → Prop) (Jx : List α → World → Prop) (W : World), Below w.heap.size w W → l < W.heap.size → (∀ Z pre W1, J Z pre W1 → K Z pre W1) →
    (∀ Z Z2 pre W1 W2, J Z pre W1 → Below W1.heap.size W1 W2 → (∀ z ∈ Z2, z ∈ Z ∨ W1.heap.size ≤ z ∧ z < W2.heap.size) → J Z2 pre W2) →
    (∀ Z pre x W1, J Z pre W1 → T pre x → YieldAt F (n - 1) P l (encs x) W1 fun e W' =>
      (e = .returned (.bool true) ∧ J Z (pre ++ [x]) W' ∧ Keeps (fun k _ => k ∈ Z) W1 W') ∨ (e = .returned (.bool false) ∧ Jx (pre ++ [x]) W')) →
    J Z0 [] W →
    CallsIn F n P g (#[.func (.yield l) #[] #[]] ++ lb) W fun e W' => (∃ v, e = .returned v) ∧ ((∃ xs, S xs ∧ J [] xs W') ∨ (∃ pre, Jx pre W'))
/-- What the body leaves. -/
def postZ {α : Type} (Z : List Nat) (I : List Nat → List α → World → Prop) (Ix : Code → List Nat → List α → World → Prop) (xs : List α) (W : World) : Exit → Act → World → Prop
  | .normal, _, W' => KeepZ Z W W' ∧ I Z xs W'
  | .ret, _, W' => KeepZ Z W W' ∧ Ix .ret Z xs W'
  | .exit id, _, W' => KeepZ Z W W' ∧ Ix (.exit id) Z xs W'
  | .goto t, _, W' => KeepZ Z W W' ∧ Ix (.goto t) Z xs W'
  | .panic _, _, _ => False
  | .outgrown, _, _ => False

variable {F : Fence} {n : Nat} {P : Program}
theorem Book.keepZ {R : LoopState → Option Code → Loop} {D : Nat} {st : LoopState} {pe : Option Code} {W W' : World} (h : Book R D st pe W) {Z : List Nat} (k : KeepZ Z W W') (h1 : D ∈ Z) (h2 : D + 1 ∈ Z) : Book R D st pe W' :=
  ⟨(k.2 _ h2 (Array.getElem?_eq_some_iff.1 h.1).1).trans h.1, (k.2 _ h1 (Array.getElem?_eq_some_iff.1 h.2).1).trans h.2⟩
/-- One round. -/
theorem one_roundZ {α : Type} {ps : Array Tmp} {assign body : Code} {tmps : Array Value} {fn : FuncId} (hfn : F.fn fn) {encs : α → Array Value}
    (R : LoopState → Option Code → Loop) (D : Nat) (hR : R = fun st pe => { state := st, pending := pe, fn, tmps := tmps, params := ps, assign, body, defers := D })
    (I : List Nat → List α → World → Prop) (Ix : Code → List Nat → List α → World → Prop) (hIp : ∀ Z pre W l L o', I Z pre W → l ∈ Z → W.heap[l]? = some (.loop L) → I Z pre (W.putObj l o')) (hXp : ∀ c Z pre W l L o', Ix c Z pre W → l ∈ Z → W.heap[l]? = some (.loop L) → Ix c Z pre (W.putObj l o'))
    (Z : List Nat) (pre : List α) (x : α) (hps : (encs x).size = ps.size) (a₁ : Act) (m : Nat) (W : World)
    (hassign : ∀ (K : Act → World → Prop), ∀ W, K a₁ W → assign.wpIn (F.inRound (D + 1)) m P (Exit.then K (fun _ _ _ => False)) { tmps := (ps.zip (encs x)).foldl (fun t (p, v) => t.setIfInBounds p v) tmps, defers := [] } W)
    (hbody : ∀ W, I (D :: (D + 1) :: Z) pre W → body.wpIn (F.inRound (D + 1)) m P (postZ (D :: (D + 1) :: Z) I Ix (pre ++ [x]) W) a₁ W)
    (hi : I (D :: (D + 1) :: Z) pre W) (hb : Book R D .ready none W) :
    YieldAt F m P (D + 1) (encs x) W fun e W' =>
      ((e = .returned (.bool true) ∧ (I (D :: (D + 1) :: Z) (pre ++ [x]) W' ∧ Book R D .ready none W') ∧ Keeps (fun k _ => k ∈ Z) W W') ∨ (e = .returned (.bool false) ∧ ∃ c, Ix c (D :: (D + 1) :: Z) (pre ++ [x]) W' ∧ Book R D .done (some c) W')) := by
  have hy := run_yield (P := P) (args := encs x) hb.1 (by rw [hR]; exact hps)
  rw [hR] at hy
  refine ⟨fn, _, assign, body, hy, roundIn_of_wpIn hfn (hassign _ _ ⟨_, run_beginRound hb.1 (by rw [hR]), ?_⟩)⟩
  have e0 : ({ R .ready none with state := .busy } : Loop) = R .busy none := by rw [hR]
  rw [e0]
  have hb2 := hb.put .busy none
  have hi2 := hIp _ _ _ (D + 1) _ (.loop (R .busy none)) hi (by simp) hb.1
  have hk2 : Keeps (fun k _ => k ∈ Z) W (W.putObj (D + 1) (.loop (R .busy none))) := Keeps.put _ _ _ _ hb.1 rfl
  revert hb2 hi2 hk2
  generalize W.putObj (D + 1) (.loop (R .busy none)) = W2
  intro hb2 hi2 hk2
  have back : ∀ (jump : Option Code) (W3 : World), KeepZ (D :: (D + 1) :: Z) W2 W3 → Book R D .busy none W3 ∧
      (Instr.endRound (D + 1) jump).run P W3 = .ok (.bool jump.isNone) (W3.putObj (D + 1) (.loop (R (if jump.isNone then .ready else .done) jump))) := fun jump W3 hk => by
    have h3 : Book R D .busy none W3 := hb2.keepZ hk (by simp) (by simp)
    have := run_endRound (P := P) jump h3.1
    rw [hR] at this ⊢
    exact ⟨by rw [hR] at h3; exact h3, this⟩
  have out : ∀ (c : Code) (W3 : World), KeepZ (D :: (D + 1) :: Z) W2 W3 → Ix c (D :: (D + 1) :: Z) (pre ++ [x]) W3 → ∃ v w', (Instr.endRound (D + 1) (some c)).run P W3 = .ok v w' ∧
      ((Ending.returned v = .returned (.bool true) ∧ (I (D :: (D + 1) :: Z) (pre ++ [x]) w' ∧ Book R D .ready none w') ∧ Keeps (fun k _ => k ∈ Z) W w') ∨ (Ending.returned v = .returned (.bool false) ∧ ∃ c, Ix c (D :: (D + 1) :: Z) (pre ++ [x]) w' ∧ Book R D .done (some c) w')) := fun c W3 hk hx => by
    obtain ⟨h3, hr⟩ := back (some c) W3 hk
    exact ⟨_, _, hr, .inr ⟨rfl, c, hXp _ _ _ _ _ _ _ hx (by simp) h3.1, h3.put _ _⟩⟩
  refine wpIn_mono (hbody W2 hi2) ?_
  rintro e a3 W3 hp
  cases e with
  | normal =>
    obtain ⟨h3, hr⟩ := back none W3 hp.1
    have hk3 : Keeps (fun k _ => k ∈ Z) W2 W3 := ⟨hp.1.1, fun k cs t fr hK hk => (hp.1.2 k (by simp [hK]) (Array.getElem?_eq_some_iff.1 hk).1).trans hk⟩
    exact ⟨_, _, hr, .inl ⟨rfl, ⟨hIp _ _ _ _ _ _ hp.2 (by simp) h3.1, h3.put _ _⟩, (hk2.trans hk3).trans (Keeps.put _ _ _ _ h3.1 rfl)⟩⟩
  | ret => exact out .ret W3 hp.1 hp.2
  | exit id => exact out (.exit id) W3 hp.1 hp.2
  | goto t => exact out (.goto t) W3 hp.1 hp.2
  | panic ch => exact hp.elim
  | outgrown => exact hp.elim
/-- The caller's law. -/
theorem wpIn_rangeFunc_Z {α : Type} {g : Operand} {ps : Array Tmp} {assign body : Code} {Q : Exit → Act → World → Prop} {a : Act} {w : World}
    (hro : F.round = none) (h1 : 1 ≤ n) {gf : Nat} {lb : Array Value} (hg : a.eval g = .func (.func gf) #[] lb) (hFg : F.fn gf) (eg : ∀ args w, (callFunc gf args).run P w = .ok (.enter gf args) w)
    {encs : α → Array Value} {K : List Nat → List α → World → Prop} {T : List α → α → Prop} {S : List α → Prop} {Z0 : List Nat} {w0 : World} (hseq : SeqZ F (n - 1) P gf lb encs K T S Z0 w0)
    (hb0 : Below w0.heap.size w0 w) (hps : ∀ x, (encs x).size = ps.size)
    (I : List Nat → List α → World → Prop) (Ix : Code → List Nat → List α → World → Prop) (hIK : ∀ Z pre W, I Z pre W → K Z pre W)
    (hIb : ∀ Z Z2 pre W1 W2, I Z pre W1 → Below W1.heap.size W1 W2 → (∀ z ∈ Z2, z ∈ Z ∨ W1.heap.size ≤ z ∧ z < W2.heap.size) → I Z2 pre W2)
    (hIp : ∀ Z pre W l L o', I Z pre W → l ∈ Z → W.heap[l]? = some (.loop L) → I Z pre (W.putObj l o')) (hXp : ∀ c Z pre W l L o', Ix c Z pre W → l ∈ Z → W.heap[l]? = some (.loop L) → Ix c Z pre (W.putObj l o')) (h0 : I Z0 [] w) (a₁ : α → Act)
    (hKZ : ∀ Z Z2 pre W, (∀ z ∈ Z2, z ∈ Z) → K Z pre W → K Z2 pre W)
    (hassign : ∀ (l : Nat) (x : α) (W : World) (K : Act → World → Prop), K (a₁ x) W →
      assign.wpIn (F.inRound l) (n - 1 - 1) P (Exit.then K (fun _ _ _ => False)) { tmps := (ps.zip (encs x)).foldl (fun t (p, v) => t.setIfInBounds p v) a.tmps, defers := [] } W)
    (hbody : ∀ (l : Nat) (Z : List Nat) (pre : List α) (x : α) (W : World), I Z pre W → T pre x → body.wpIn (F.inRound l) (n - 1 - 1) P (postZ Z I Ix (pre ++ [x]) W) (a₁ x) W)
    (hdone : ∀ (xs : List α) (W : World), S xs → I [] xs W → W.heap[w.heap.size]? = some (.deferred (some [])) → Q .normal { a with defers := { target := .collected w.heap.size, args := #[] } :: a.defers } W)
    (hstop : ∀ (c : Code) (Z : List Nat) (pre : List α) (W : World), Ix c Z pre W → W.heap[w.heap.size]? = some (.deferred (some [])) → c.wpIn F n P Q { a with defers := { target := .collected w.heap.size, args := #[] } :: a.defers } W) :
    (Code.rangeFunc g ps assign body).wpIn F n P Q a w := by
  refine wpIn_rangeFunc fun fn hfn => ?_
  rw [hro]
  obtain ⟨R, hR⟩ : ∃ R : LoopState → Option Code → Loop, R = fun st pe => { state := st, pending := pe, fn, tmps := a.tmps, params := ps, assign, body, defers := w.heap.size } := ⟨_, rfl⟩
  have hen := run_enterLoop_outer (P := P) (w := w) fn a.tmps ps assign body
  have hbW : Below w.heap.size w ((w.alloc (.deferred (some []))).alloc (.loop (R .ready none))) := ((Below.refl _ w).alloc (Nat.le_refl _) _).alloc (by simp) _
  have hI1 := hIb Z0 (w.heap.size :: (w.heap.size + 1) :: Z0) [] w _ h0 hbW (fun z hz => by
    rcases List.mem_cons.1 hz with rfl | hz
    · exact .inr (by simp only [World.size_alloc]; omega)
    · rcases List.mem_cons.1 hz with rfl | hz
      · exact .inr (by simp only [World.size_alloc]; omega)
      · exact .inl hz)
  have hb1 : Below w0.heap.size w0 ((w.alloc (.deferred (some []))).alloc (.loop (R .ready none))) := hb0.trans (hbW.mono hb0.size)
  have hB1 : Book R w.heap.size .ready none ((w.alloc (.deferred (some []))).alloc (.loop (R .ready none))) := by
    refine ⟨?_, (Below.heap_alloc _ _ _ (by simp)).trans (World.alloc_heap_new w _)⟩
    have := World.alloc_heap_new (w.alloc (.deferred (some []))) (.loop (R .ready none))
    rwa [World.size_alloc] at this
  have hs1 : ((w.alloc (.deferred (some []))).alloc (.loop (R .ready none))).heap.size = w.heap.size + 1 + 1 := by simp
  rw [show ({ state := .ready, pending := none, fn, tmps := a.tmps, params := ps, assign, body, defers := w.heap.size } : Loop) = R .ready none by rw [hR]] at hen
  revert hen hI1 hb1 hB1 hs1
  clear hbW
  generalize (w.alloc (.deferred (some []))).alloc (.loop (R .ready none)) = W1
  intro hen hI1 hb1 hB1 hs1
  have hend : ∀ (st : LoopState) (pe : Option Code) (W2 : World), st ≠ .busy → Book R w.heap.size st pe W2 → (Instr.endLoop (w.heap.size + 1)).run P W2 = .ok pe (W2.putObj (w.heap.size + 1) (.loop (R .exhausted pe))) := fun st pe W2 hst hb => by
    have := run_endLoop (P := P) hb.1 (by rw [hR]; exact hst)
    rw [hR] at this ⊢
    exact this
  refine ⟨w.heap.size + 1, [{ target := .collected w.heap.size, args := #[] }], W1, { target := .fn (.func gf) lb, args := #[.func (.yield (w.heap.size + 1)) #[] #[]] }, W1, gf,
    #[.func (.yield (w.heap.size + 1)) #[] #[]] ++ lb, W1, hen, ?_, ?_, ?_, fun _ => h1, ?_⟩
  · simp only [resolve, hg]
    simp [go_sem]
  · intro f' hf'; simp [Target.leads] at hf'; subst hf'; exact hFg
  · simp [invoke, go_sem, eg]
  · refine (hseq (w.heap.size + 1) (fun Z pre W => I (w.heap.size :: (w.heap.size + 1) :: Z) pre W ∧ Book R w.heap.size .ready none W) (fun pre W => ∃ c Z, w.heap.size ∈ Z ∧ w.heap.size + 1 ∈ Z ∧ Ix c Z pre W ∧ Book R w.heap.size .done (some c) W) W1 hb1 (by omega)
      (fun Z pre W h => hKZ _ _ _ _ (fun z hz => by simp [hz]) (hIK _ _ _ h.1))
      (fun Z Z2 pre A B h hAB hZ => ⟨hIb _ _ _ _ _ h.1 hAB (fun z hz => by
        rcases List.mem_cons.1 hz with rfl | hz
        · exact .inl (by simp)
        · rcases List.mem_cons.1 hz with rfl | hz
          · exact .inl (by simp)
          · rcases hZ z hz with h2 | h2
            · exact .inl (by simp [h2])
            · exact .inr h2), ⟨(hAB.block _ (Array.getElem?_eq_some_iff.1 h.2.1).1).trans h.2.1, (hAB.block _ (Array.getElem?_eq_some_iff.1 h.2.2).1).trans h.2.2⟩⟩)
      (fun Z pre x W ⟨hi, hb⟩ ht => ?_)
      ⟨hI1, hB1⟩).mono ?_
    · refine YieldAt.mono (one_roundZ hfn R w.heap.size hR I Ix hIp hXp Z pre x (hps x) (a₁ x) (n - 1 - 1) W (fun K W hK => hassign _ x W K hK) (fun W' hi' => hbody _ _ pre x W' hi' ht) hi hb) ?_
      rintro e W' (⟨h3, h4, h5⟩ | ⟨h3, c, h4, h5⟩)
      · exact .inl ⟨h3, h4, h5⟩
      · exact .inr ⟨h3, c, _, by simp, by simp, h4, h5⟩
    rintro e W2 ⟨⟨v, rfl⟩, (⟨xs, hS, hi, hb⟩ | ⟨pre, c, Z, hz1, hz2, hi, hb⟩)⟩
    · exact ⟨none, _, hend .ready none W2 (by decide) hb, hdone xs _ hS (hIb _ _ _ _ _ (hIp _ _ _ _ _ _ hi (by simp) hb.1) (Below.refl _ _) (by simp)) ((World.putObj_heap_other (by omega)).trans hb.2)⟩
    · exact ⟨some c, _, hend .done (some c) W2 (by decide) hb, hstop c Z pre _ (hXp _ _ _ _ _ _ _ hi hz2 hb.1) ((World.putObj_heap_other (by omega)).trans hb.2)⟩
end Go.Proofs.YtkmngbkghgelfaaGreat
/- The iterator of a search: the places that wait. -/
namespace Go.Proofs.YtkmngbkghgelfaaGreat
open Go.Shelf Go.RowKit Go.Lib
open Go.Sort hiding Below
set_option linter.unusedVariables false
set_option linter.unusedSimpArgs false
attribute [local go_sem] Oper.semAt_some
def encP (p : Nat) : Array Value := #[.int .i64 (p : Int)]
/-- The search behind the places that were told. -/
def stP (E : Se) (t0 : Sr) (pre : List Nat) : Sr := pre.foldl (lookP E.G E.v E.m) t0
theorem stP_snoc (E : Se) (t0 : Sr) (pre : List Nat) (p : Nat) : stP E t0 (pre ++ [p]) = lookP E.G E.v E.m (stP E t0 pre) p := by unfold stP; rw [List.foldl_append]; rfl
/-- What holds at each round. -/
def KS (E : Se) (L : List Gn) (s : Int) (b : Nat) (t0 : Sr) (Z : List Nat) (pre : List Nat) (W : World) : Prop :=
  ∃ F, SrAt E W b F (stP E t0 pre) ∧ (∀ z ∈ Z, z ∉ F ∧ z < W.heap.size) ∧ (stP E t0 pre).ps = t0.ps ∧ OkS E.G E.v E.m (stP E t0 pre) ∧ SEnv E L s W
theorem hl_at {E : Se} {ps : List Nat} {i : Nat} {x : Int × Int} (h : (hlP E.G E.v ps)[i]? = some x) : ∃ p, ps[i]? = some p ∧ x = hitP E.G E.v p := by
  unfold hlP at h
  rw [List.getElem?_map] at h
  cases hp : ps[i]? with
  | none => rw [hp] at h; cases h
  | some p => rw [hp] at h; exact ⟨p, rfl, by simpa using h.symm⟩
theorem ids_at {G : List Pn} {p : Nat} (h : p < G.length) : (idsG G)[p]? = some (nAt G p).1 := by
  unfold idsG nAt
  rw [List.getElem?_map, List.getElem?_eq_getElem h]; rfl
theorem keeps_whole {Z : List Nat} {W W' : World} {g : Nat} {t : TypeId} {cs : Array Value} (h : Whole W g t cs) (k : Keeps (fun k _ => k ∈ Z) W W') (hz : g ∈ Z) : Whole W' g t cs := k.same g _ _ _ hz h
set_option maxRecDepth 100000 in
set_option maxHeartbeats 4000000 in
theorem waiting_in (n l : Nat) (E : Se) (L : List Gn) (s : Int) (t0 : Sr) (b bs : Nat) (J : List Nat → List Nat → World → Prop) (Jx : List Nat → World → Prop) (hn : 1 ≤ n)
    (hJK : ∀ Z pre W1, J Z pre W1 → KS E L s b t0 Z pre W1)
    (hJb : ∀ Z Z2 pre W1 W2, J Z pre W1 → Below W1.heap.size W1 W2 → (∀ z ∈ Z2, z ∈ Z ∨ W1.heap.size ≤ z ∧ z < W2.heap.size) → J Z2 pre W2)
    (hY : ∀ Z pre x W1, J Z pre W1 → nextP (stP E t0 pre) = some x → YieldAt Fence.wide (n - 1) Tryz.prog l (encP x) W1 fun e W' =>
      (e = .returned (.bool true) ∧ J Z (pre ++ [x]) W' ∧ Keeps (fun k _ => k ∈ Z) W1 W') ∨ (e = .returned (.bool false) ∧ Jx (pre ++ [x]) W'))
    (W : World) (h0 : J [bs] [] W) (hB : Whole W bs 65 #[.pointer (some ⟨b, 0, none⟩)]) :
    CallsIn Fence.wide n Tryz.prog 133 #[.func (.yield l) #[] #[], .pointer (some ⟨bs, 0, none⟩)] W fun e W' => (∃ v, e = .returned v) ∧
      ((∃ xs : List Nat, nextP (stP E t0 xs) = none ∧ J [] xs W') ∨ (∃ pre : List Nat, Jx pre W')) := by
  have f33 : Fence.wide.fn 26 := trivial
  have f55 : Fence.wide.fn 121 := trivial
  have HJK := Lib.hid hJK
  have HJb := Lib.hid hJb
  have HY := Lib.hid hY
  have H0 := Lib.hid h0
  have HB := Lib.hid hB
  obtain ⟨F, ⟨g, hb, oA, oc, hS, rfl, rfl⟩, hZ, hps, hok, hE⟩ := hJK _ _ _ h0
  have hps0 : (stP E t0 []).ps = t0.ps := rfl
  have c0 : W.cell? ⟨bs, 0, none⟩ = some (.pointer (some ⟨g.b, 0, none⟩)) := hB.cell 0
  have c1 : W.cell? ⟨g.b, 0, none⟩ = some (.pointer (some ⟨hb, 0, none⟩)) := hS.blk.cell 0
  have HH := Lib.hid (hHits_any hb g.FH E.m (hlP E.G E.v t0.ps) W hS.heap)
  have hlen : (hlP E.G E.v t0.ps).length ≤ 256 := by rw [hlP_len]; have := hok.le; have := hE.m2; rw [hps0] at *; omega
  have HLL := Lib.hid (hlP_len E.G E.v t0.ps)
  clear hJK hJb hY h0 hB hZ hps hok hE hS hps0
  obtain ⟨b, eb⟩ : ∃ b, g.b = b := ⟨_, rfl⟩
  rw [eb] at HJK c0 c1 HB
  clear eb
  refine callsIn_of_wp Tryz.func133 rfl trivial ?_ rfl
  simp only [Tryz.ntmps133, List.size_toArray, List.length_cons, List.length_nil, Nat.reduceAdd, Nat.reduceSub, Array.replicate_succ, Array.replicate_zero, List.push_toArray, List.append_toArray, List.nil_append, List.cons_append]
  gi_wp2_with (gi_at_call 26; refine (callsIn_wide.2 HH.out).mono ?_; rintro e W2 ⟨gs, rfl, hW2, hg2, t2⟩)
  have b2 := turn_nil t2
  have HJ2 := Lib.hid (HJb.out [bs] [gs, bs] [] W W2 H0.out b2 (fun z hz => by
    rcases List.mem_cons.1 hz with rfl | hz
    · exact .inr ⟨hg2, hW2.lt⟩
    · exact .inl hz))
  have HB2 := Lib.hid (HB.out.below b2 HB.out.lt)
  have HW2 := Lib.hid hW2
  obtain ⟨N, eN⟩ : ∃ N, (hlP E.G E.v t0.ps).length = N := ⟨_, rfl⟩
  rw [eN] at hlen HLL ⊢
  have HN := Lib.hid eN
  clear hW2 hg2 t2 b2 c0 c1 HH eN
  gi_loopw [4, 5, 12] (fun _ _ i wr => ∃ (k : Nat) (pre : List Nat), k ≤ N ∧ i = .int .i64 k ∧ Hid (J [gs, bs] pre wr) ∧ Hid (Whole wr bs 65 #[.pointer (some ⟨b, 0, none⟩)]) ∧ Hid (Whole wr gs 78 (flatH (hlP E.G E.v t0.ps)).toArray) ∧ Hid (∀ j q, j < k → t0.ps[j]? = some q → q ∈ (stP E t0 pre).od)) (fun _ _ i _ => N - (intOf i).toNat)
  case atStart => exact ⟨0, [], by omega, rfl, HJ2, HB2, HW2, Lib.hid (fun j q h => absurd h (Nat.not_lt_zero _))⟩
  case round =>
    clear HJ2 HB2 HW2
    obtain ⟨k, pre, hk, rfl, HJ, HBx, HWx, HD⟩ := hrel
    by_cases hlt : k < N
    · have e1 : decide ((k : Int) < (N : Int)) = true := decide_eq_true (by omega)
      obtain ⟨b0, off0, x, y, hA0, _, kc1, kc2, hv⟩ := (rdH_whole HWx.out).at_ (i := k) (by have := HN.out; omega)
      simp only [Option.some.injEq, Addr.mk.injEq, and_true] at hA0
      obtain ⟨rfl, rfl⟩ := hA0
      rw [Nat.zero_add] at kc1 kc2
      have x1 : (0 : Int) ≤ (k : Int) := by omega
      have x2 : (k : Int) < (N : Int) := by omega
      obtain ⟨p, hp, hxy⟩ := hl_at hv.out
      have HPS := Lib.hid hp
      have B2 : Below wr.heap.size wr (wr.alloc (.cells #[.int .u64 x, .int .i64 y] 78)) := below_one (Below.refl _ _) _
      have J2 := HJb.out [gs, bs] [gs, bs] pre wr _ HJ.out B2 (fun z hz => .inl hz)
      have HB2 := Lib.hid (HBx.out.below B2 HBx.out.lt)
      have HW2 := Lib.hid (HWx.out.below B2 HWx.out.lt)
      have WX := Whole.new wr 78 #[.int .u64 x, .int .i64 y]
      gi_wp2
      obtain ⟨w2, ew2⟩ : ∃ w2, wr.alloc (.cells #[.int .u64 x, .int .i64 y] 78) = w2 := ⟨_, rfl⟩
      obtain ⟨xb, exb⟩ : ∃ xb, wr.heap.size = xb := ⟨_, rfl⟩
      rw [ew2] at B2 J2 HB2 HW2 WX ⊢
      rw [exb] at WX ⊢
      obtain ⟨F, ⟨g, hb, oA, oc, hS, hgb, rfl⟩, hZ, hps, hok, hE⟩ := HJK.out _ _ _ J2
      subst hgb
      have hpl : p < E.G.length := by
        have : p ∈ (stP E t0 pre).ps := by rw [hps]; exact List.mem_of_getElem? hp
        exact hok.lt p (hok.sub p this)
      have hx1 : x = (nAt E.G p).1 := by have := congrArg Prod.fst hxy; exact this
      have hlk : ∀ m, (Instr.lookup 71 (.map (some g.pm)) (.int .u64 x) false).run Tryz.prog (w2.drewN m) = .ok (.int .i64 (p : Int)) (w2.drewN m) := fun m => by
        have h1 := hS.pl.turn (A := []) ((Turn.refl _ _).drewN m) (by simp)
        exact h1.look hE.may.nd (by rw [hx1]; exact ids_at hpl) (by rw [hx1]; exact u64_wf (hE.ok _ (nAt_mem hpl)).1)
      have hlk1 : (Instr.lookup 71 (.map (some g.pm)) (.int .u64 x) false).run Tryz.prog w2.drew = .ok (.int .i64 (p : Int)) w2.drew := hlk 1
      have q0 : w2.cell? ⟨bs, 0, none⟩ = some (.pointer (some ⟨g.b, 0, none⟩)) := HB2.out.cell 0
      have q1 : w2.cell? ⟨g.b, 3, none⟩ = some (.map (some g.pm)) := hS.blk.cell 3
      have q2 : w2.cell? ⟨xb, 0, none⟩ = some (.int .u64 x) := WX.cell 0
      have HST := Lib.hid hS
      have HJ2 := Lib.hid J2
      have HPS2 := Lib.hid hps
      clear hS hZ hps hok hE B2 J2 WX kc1 kc2 hv hxy ew2 exb hx1 hp
      rw [wpIn_wide]
      go_quiet (fail)
      have t3 : Turn [] w2 (w2.drewN nq) := (Turn.refl _ _).drewN nq
      have b3 : Below w2.heap.size w2 (w2.drewN nq) := below_drewN (Below.refl _ _) nq
      obtain ⟨w3, ew3⟩ : ∃ w3, w2.drewN nq = w3 := ⟨_, rfl⟩
      rw [ew3] at t3 b3 ⊢
      have S3 := HST.out.turn t3 (by simp)
      have HS3 := Lib.hid S3
      have HJ3 := Lib.hid (HJb.out [gs, bs] [gs, bs] pre w2 w3 HJ2.out b3 (fun z hz => .inl hz))
      have HB3 := Lib.hid (HB2.out.below b3 HB2.out.lt)
      have HW3 := Lib.hid (HW2.out.below b3 HW2.out.lt)
      have q0' : w3.cell? ⟨bs, 0, none⟩ = some (.pointer (some ⟨g.b, 0, none⟩)) := HB3.out.cell 0
      have q1' : w3.cell? ⟨g.b, 5, none⟩ = some (.pointer (some ⟨g.kb, 0, none⟩)) := S3.blk.cell 5
      have HA0 := hasF_any g.kb g.kg E.G.length _ (p : Int) w3 S3.lk
      have hin : inI E.G.length (fun x => decide (x ∈ (stP E t0 pre).od)) (p : Int) = decide (p ∈ (stP E t0 pre).od) := by unfold inI; rw [inB_in hpl]; simp
      rw [hin] at HA0
      clear hin q0 q1 q2 hlk hlk1 S3 t3 b3 ew3 HB2 HW2 HJ2 HST
      by_cases hod : p ∈ (stP E t0 pre).od
      · rw [decide_eq_true hod] at HA0
        have HA := Lib.hid HA0
        have HDN : Hid (∀ j q, j < k + 1 → t0.ps[j]? = some q → q ∈ (stP E t0 pre).od) := Lib.hid (fun j q hj hq => by
          rcases Nat.lt_or_ge j k with h | h
          · exact HD.out j q h hq
          · obtain rfl : j = k := by omega
            rw [HPS.out] at hq
            injection hq with hq
            subst hq
            exact hod)
        clear HA0 hod
        gi_wp2_with (gi_at_call 121; refine (callsIn_wide.2 HA.out).mono ?_; rintro e w4 ⟨rfl, m4, hw4⟩; have b4 : Below w3.heap.size w3 w4 := (by rw [hw4]; exact below_drewN (Below.refl _ _) m4); have HJ4 := Lib.hid (HJb.out [gs, bs] [gs, bs] pre w3 w4 HJ3.out b4 (fun z hz => .inl hz)); have HB4 := Lib.hid (HB3.out.below b4 HB3.out.lt); have HW4 := Lib.hid (HW3.out.below b4 HW3.out.lt); clear hw4 b4)
        refine ⟨fun f h => (by cases h), ?_⟩
        gi_wp2
        go_roundw
        case rel => exact ⟨k + 1, pre, by omega, by go_num, HJ4, HB4, HW4, HDN⟩
        case measure => simp [intOf]; omega
      · rw [decide_eq_false hod] at HA0
        have HA := Lib.hid HA0
        have HNX : Hid (nextP (stP E t0 pre) = some p) := Lib.hid (nextP_at (i := k) (by rw [HPS2.out]; exact HPS.out) hod (fun j q hj hq => HD.out j q hj (by rw [← HPS2.out]; exact hq)))
        have HDN : Hid (∀ j q, j < k + 1 → t0.ps[j]? = some q → q ∈ (stP E t0 (pre ++ [p])).od) := Lib.hid (fun j q hj hq => by
          rw [stP_snoc, lookP_od]
          rcases Nat.lt_or_ge j k with h | h
          · exact List.mem_append_left _ (HD.out j q h hq)
          · obtain rfl : j = k := by omega
            rw [HPS.out] at hq
            injection hq with hq
            subst hq
            simp)
        clear HA0 hod
        gi_wp2_with (gi_at_call 121; refine (callsIn_wide.2 HA.out).mono ?_; rintro e w4 ⟨rfl, m4, hw4⟩; have b4 : Below w3.heap.size w3 w4 := (by rw [hw4]; exact below_drewN (Below.refl _ _) m4); have hJ4 := HJb.out [gs, bs] [gs, bs] pre w3 w4 HJ3.out b4 (fun z hz => .inl hz); have HB4 := Lib.hid (HB3.out.below b4 HB3.out.lt); have HW4 := Lib.hid (HW3.out.below b4 HW3.out.lt); obtain ⟨fn, tmps, assign, body, hyy, hR⟩ := HY.out _ _ _ w4 hJ4 HNX.out; have hy' : (Instr.yield l #[.int .i64 (p : Int)]).run Tryz.prog w4 = .ok (.round l fn tmps assign body) w4 := hyy; have HR := Lib.hid hR; clear hw4 b4 hJ4 hR hyy)
        refine HR.out.mono ?_
        rintro e w5 (⟨rfl, hJ5, hK5⟩ | ⟨rfl, hJx⟩)
        · have HB5 := Lib.hid (keeps_whole HB4.out hK5 (by simp))
          have HW5 := Lib.hid (keeps_whole HW4.out hK5 (by simp))
          have HJ5 := Lib.hid hJ5
          clear hJ5 hK5
          gi_wp2
          go_roundw
          case rel => exact ⟨k + 1, pre ++ [p], by omega, by go_num, HJ5, HB5, HW5, HDN⟩
          case measure => simp [intOf]; omega
        · gi_wp2
          refine bodyPost_ret (results_none rfl _ _ _) rfl ?_
          exact ⟨⟨_, rfl⟩, .inr ⟨_, hJx⟩⟩
    · obtain rfl : k = N := by omega
      have HX : Hid (nextP (stP E t0 pre) = none) := Lib.hid (nextP_all (fun q hq => by
        obtain ⟨F, _, _, hps, _⟩ := HJK.out _ _ _ HJ.out
        rw [hps] at hq
        obtain ⟨j, hj, rfl⟩ := List.getElem_of_mem hq
        exact HD.out j _ (by have := HLL.out; omega) (List.getElem?_eq_getElem hj)))
      have HJ0 := Lib.hid (HJb.out [gs, bs] [] pre wr wr HJ.out (Below.refl _ _) (by simp))
      gi_wp2
      go_end0
      exact ⟨⟨_, rfl⟩, .inl ⟨pre, HX.out, HJ0.out⟩⟩
end Go.Proofs.YtkmngbkghgelfaaGreat
/- The walk of lookAround. -/
namespace Go.Proofs.YtkmngbkghgelfaaGreat
open Go.Shelf Go.RowKit Go.Lib
open Go.Sort hiding Below
set_option linter.unusedVariables false
set_option linter.unusedSimpArgs false
attribute [local go_sem] Oper.semAt_some
/-- A function's marks for its loops over iterators, none of which defers. -/
def markF (D : Nat) : Deferred := { target := .collected D, args := #[] }
structure MarksF (w : World) (base : Nat) (Ds : List Nat) : Prop where
  nodup : Ds.Nodup
  at_ : ∀ D ∈ Ds, base ≤ D ∧ w.heap[D]? = some (.deferred (some []))
theorem MarksF.nil (w : World) (base : Nat) : MarksF w base [] := ⟨List.nodup_nil, fun D h => by cases h⟩
theorem MarksF.lt {w : World} {base : Nat} {Ds : List Nat} (h : MarksF w base Ds) : ∀ D ∈ Ds, D < w.heap.size := fun D hD => (Array.getElem?_eq_some_iff.1 (h.at_ D hD).2).1
theorem leaves_marksF {F : Fence} {n : Nat} {P : Program} {fn : Func} {tmps : Array Value} {R : Ending → World → Prop} {base : Nat} {v : Value} (hres : ∀ W, (results fn tmps).run P W = .ok v W)
    (hR : ∀ W D, base ≤ D → W.heap[D]? = some (.deferred (some [])) → R (.returned v) W → R (.returned v) (W.putObj D (.deferred none))) :
    ∀ (Ds : List Nat) (W : World), MarksF W base Ds → R (.returned v) W → LeavesInM F n P fn tmps R (Ds.map markF) .returning W
  | [], W, _, h => ⟨v, hres W, h⟩
  | D :: Ds, W, hM, h => by
    have hD := hM.at_ D (List.mem_cons_self)
    refine ⟨by simp, .inl ⟨D, _, rfl, run_takeDeferred hD.2, leaves_marksF hres hR Ds _ ⟨(List.nodup_cons.1 hM.nodup).2, fun E hE => ⟨(hM.at_ E (List.mem_cons_of_mem _ hE)).1, ?_⟩⟩ (hR W D hD.1 hD.2 h)⟩⟩
    have hne : E ≠ D := fun e => (List.nodup_cons.1 hM.nodup).1 (e ▸ hE)
    exact (World.putObj_heap_other hne).trans (hM.at_ E (List.mem_cons_of_mem _ hE)).2
/-- A search's blocks are cells or maps. -/
theorem SrS.obj {E : Se} {w : World} {g : Gr} {hb : Nat} {oA : Option Addr} {oc : Nat} {t : Sr} {ol : List Nat} (h : SrS E w g hb oA oc t ol) : ∀ f ∈ g.fp, (∃ cs t fr, w.heap[f]? = some (.cells cs t fr)) ∨ ∃ es c, w.heap[f]? = some (.map es c) := fun f hf => by
  obtain ⟨i, hi, hf⟩ := Gr.mem.1 hf
  have hrow : ∀ {base n size : Nat} {e : TypeId} {v : Value} {xs : List Value}, w.ownsRow base e size v n xs → v.ownBlock = some f → ∃ cs t fr, w.heap[f]? = some (.cells cs t fr) := fun {base n size e v xs} ho hv => by
    rcases ho.2 with ⟨rfl, _⟩ | ⟨g', cap, cur, rfl, _, hg, _⟩
    · simp [Value.ownBlock] at hv
    · simp [Value.ownBlock] at hv
      subst hv
      exact ⟨_, _, _, hg⟩
  match i, hi with
  | 0, _ => simp only [Gr.at, List.mem_singleton] at hf; subst hf; exact .inl ⟨_, _, _, h.blk⟩
  | 1, _ => simp only [Gr.at, List.mem_singleton] at hf; subst hf; exact .inr h.pl.obj
  | 2, _ =>
    obtain ⟨ws, h1, _⟩ := h.cm
    simp only [Gr.at, List.mem_cons, List.not_mem_nil, or_false] at hf
    rcases hf with rfl | rfl
    · exact .inl ⟨_, _, _, h1.blk⟩
    · exact .inl ⟨_, _, _, h1.row⟩
  | 3, _ =>
    obtain ⟨ws, h1, _⟩ := h.lk
    simp only [Gr.at, List.mem_cons, List.not_mem_nil, or_false] at hf
    rcases hf with rfl | rfl
    · exact .inl ⟨_, _, _, h1.blk⟩
    · exact .inl ⟨_, _, _, h1.row⟩
  | 4, _ =>
    have hf' : f ∈ g.FH := hf
    obtain ⟨fm, v, n, L, h1, h2, _⟩ := h.heap
    rw [h2] at hf'
    simp only [foot, List.mem_cons, Option.mem_toList] at hf'
    rcases hf' with rfl | rfl | hf'
    · exact .inl ⟨_, _, _, h1.at_.blk⟩
    · obtain ⟨D, ⟨es, clock, hm, _⟩, _⟩ := h1.map
      exact .inr ⟨es, clock, hm⟩
    · exact .inl (hrow h1.at_.row hf')
  | 5, _ =>
    have hf' : f ∈ g.O := hf
    rw [h.oo] at hf'
    exact .inl (hrow h.od ((obl_own f).2 hf'))
theorem SrAt.off {E : Se} {w : World} {b : Nat} {F : List Nat} {t : Sr} (h : SrAt E w b F t) {D : Nat} {x : Option (List Deferred)} (hD : w.heap[D]? = some (.deferred x)) : D ∉ F := fun hm => by
  obtain ⟨g, hb, oA, oc, h1, h2, rfl⟩ := h
  rcases h1.obj D hm with ⟨cs, t, fr, h3⟩ | ⟨es, c, h3⟩ <;> rw [h3] at hD <;> cases hD
theorem turn_put (W : World) (l : Nat) (o' : Obj) : Turn [l] W (W.putObj l o') := Turn.of_grown (r := some l) (grownBy_putObj' W l o')
theorem waiting_any (b : Nat) (w : World) : Calls Tryz.prog 115 #[.pointer (some ⟨b, 0, none⟩)] w fun e w' => e = .returned (.func (.func 133) #[] #[.pointer (some ⟨w.heap.size, 0, none⟩)]) ∧ w' = w.alloc (.cells #[.pointer (some ⟨b, 0, none⟩)] 65) := by
  go_enter Tryz.func115, Tryz.ntmps115
  go_wp2
  go_ret
  exact ⟨rfl, rfl⟩
theorem wp_scope_label {P : Program} {a : Act} {w : World} {Q : Exit → Act → World → Prop} {rest : Code} {l : Nat} (J : Act → World → Prop) (μ : Act → World → Nat) (hJ : J a w)
    (pass : ∀ a w, J a w → rest.wp P (Exit.jump l (fun a' w' => J a' w' ∧ μ a' w' < μ a w) Q) a w) : (Code.scope (.seq (.label l) rest)).wp P Q a w := by
  refine wp_scope_jumps (rest := .seq .skip rest) l J μ (by simp [findLabel]) ?_ ?_
  · refine wp_seq (wp_label ?_)
    show rest.wp P (Exit.jump l J Q) a w
    refine wp_mono (pass a w hJ) (fun e a w h => ?_)
    cases e with
    | goto l' => exact ⟨h.1, h.2.1⟩
    | _ => exact h
  · intro a w h
    refine wp_seq (wp_skip ?_)
    exact pass a w h
/-- A search under way within lookAround. -/
def LkS (E : Se) (L : List Gn) (s : Int) (b : Nat) (F : List Nat) (w0 : World) (bx : Nat) (Fin : Sr) (Ds Z : List Nat) (tt : Sr) (W : World) : Prop :=
  ∃ F', SrAt E W b F' tt ∧ Turn F w0 W ∧ (∀ f ∈ F', f ∈ F ∨ w0.heap.size ≤ f) ∧ (∀ z ∈ Z, z ∉ F' ∧ z < W.heap.size ∧ w0.heap.size ≤ z) ∧ (bx ∉ F' ∧ Whole W bx 65 #[.pointer (some ⟨b, 0, none⟩)]) ∧ MarksF W w0.heap.size Ds ∧
    OkS E.G E.v E.m tt ∧ SEnv E L s W ∧ runP E.G E.v E.m (E.G.length - tt.od.length) tt = Fin
theorem LkS.below {E : Se} {L : List Gn} {s : Int} {b : Nat} {F : List Nat} {w0 : World} {bx : Nat} {Fin : Sr} {Ds Z Z2 : List Nat} {tt : Sr} {W W2 : World} (h : LkS E L s b F w0 bx Fin Ds Z tt W) (k : Below W.heap.size W W2) (hZ : ∀ z ∈ Z2, z ∈ Z ∨ W.heap.size ≤ z ∧ z < W2.heap.size) : LkS E L s b F w0 bx Fin Ds Z2 tt W2 := by
  obtain ⟨F', h1, h2, h3, h4, h5, h6, h7, h8, h9⟩ := h
  refine ⟨F', h1.below k, h2.trans (Turn.of_below k) (by simp), h3, fun z hz => ?_, ⟨h5.1, h5.2.below k h5.2.lt⟩, ⟨h6.nodup, fun D hD => ⟨(h6.at_ D hD).1, (k.block D (h6.lt D hD)).trans (h6.at_ D hD).2⟩⟩, h7, h8.below (k.mono h8.bs), h9⟩
  rcases hZ z hz with h | h
  · exact ⟨(h4 z h).1, Nat.lt_of_lt_of_le (h4 z h).2.1 k.size, (h4 z h).2.2⟩
  · exact ⟨fun hm => by have := (h1.fpt z hm).2; omega, h.2, Nat.le_trans h2.size h.1⟩
theorem LkS.put {E : Se} {L : List Gn} {s : Int} {b : Nat} {F : List Nat} {w0 : World} {bx : Nat} {Fin : Sr} {Ds Z : List Nat} {tt : Sr} {W : World} (h : LkS E L s b F w0 bx Fin Ds Z tt W) (hw0 : ∀ f ∈ F, E.base ≤ f) (hbs : E.base ≤ w0.heap.size) {l : Nat} {o o' : Obj} (hl : l ∈ Z) (ho : W.heap[l]? = some o) (hc : o.isCells = false) (hd : ∀ x, o ≠ .deferred x) : LkS E L s b F w0 bx Fin Ds Z tt (W.putObj l o') := by
  obtain ⟨F', h1, h2, h3, h4, h5, h6, h7, h8, h9⟩ := h
  have k := turn_put W l o'
  have hlw := (h4 l hl).2.2
  have hbl : bx ≠ l := fun e => by
    subst e
    have := h5.2
    rw [show W.heap[bx]? = _ from this] at ho
    cases ho; cases hc
  have h2' : Turn F w0 (W.putObj l o') := h2.trans k (fun a ha => .inr (by rw [List.mem_singleton] at ha; omega))
  refine ⟨F', h1.turn k (fun x hx => by rw [List.mem_singleton] at hx; subst hx; exact (h4 x hl).1), h2', h3, fun z hz => ⟨(h4 z hz).1, Nat.lt_of_lt_of_le (h4 z hz).2.1 k.size, (h4 z hz).2.2⟩, ⟨h5.1, h5.2.turn k (by simpa using hbl)⟩,
    ⟨h6.nodup, fun D hD => ⟨(h6.at_ D hD).1, (World.putObj_heap_other (fun e => by
      subst e
      rw [(h6.at_ D hD).2] at ho
      cases ho; exact hd _ rfl)).trans (h6.at_ D hD).2⟩⟩, h7, h8.below (k.below (by simp; omega) (by have := h2.size; omega)), h9⟩
theorem LkS.look {E : Se} {L : List Gn} {s : Int} {b : Nat} {F F1 : List Nat} {w0 : World} {bx : Nat} {Fin : Sr} {Ds Z : List Nat} {tt : Sr} {W W2 : World} (hS : SrAt E W b F1 tt) (hT : Turn F w0 W) (hF : ∀ f ∈ F1, f ∈ F ∨ w0.heap.size ≤ f) (hZ : ∀ z ∈ Z, z ∉ F1 ∧ z < W.heap.size ∧ w0.heap.size ≤ z) (hB : bx ∉ F1 ∧ Whole W bx 65 #[.pointer (some ⟨b, 0, none⟩)]) (hM : MarksF W w0.heap.size Ds) (hO : OkS E.G E.v E.m tt) (hE : SEnv E L s W)
    (hR : runP E.G E.v E.m (E.G.length - tt.od.length) tt = Fin) {p : Nat} (hp : nextP tt = some p) {e : Ending} {r : Bool} (hC : Came E b F1 (lookP E.G E.v E.m tt p) r W e W2) :
    e = .returned (.bool r) ∧ LkS E L s b F w0 bx Fin Ds Z (lookP E.G E.v E.m tt p) W2 ∧ KeepZ Z W W2 := by
  obtain ⟨h1, F2, h2, h3, h4⟩ := hC
  have hge := fun f hf => (hS.fpt f hf).1
  have new : ∀ z, z ∉ F1 → z < W.heap.size → z ∉ F2 := fun z hz hlt hm => by
    rcases h4 z hm with h | h
    · exact hz h
    · omega
  refine ⟨h1, ⟨F2, h2, hT.trans h3 hF, fun f hf => ?_, fun z hz => ⟨new z (hZ z hz).1 (hZ z hz).2.1, Nat.lt_of_lt_of_le (hZ z hz).2.1 h3.size, (hZ z hz).2.2⟩, ⟨new bx hB.1 hB.2.lt, hB.2.turn h3 hB.1⟩,
    ⟨hM.nodup, fun D hD => ⟨(hM.at_ D hD).1, (h3.block D (hM.lt D hD) (hS.off (hM.at_ D hD).2)).trans (hM.at_ D hD).2⟩⟩, hO.look hE.may.ho hE.may.nd hE.m1 (hO.sub p (nextP_some hp).1) (nextP_some hp).2, hE.below (h3.below hge hE.bs), by rw [← runP_step hO hp]; exact hR⟩, h3.size, fun z hz hlt => h3.block z hlt (hZ z hz).1⟩
  rcases h4 f hf with h | h
  · exact hF f h
  · exact .inr (Nat.le_trans hT.size h)
theorem stP_od (E : Se) : ∀ (pre : List Nat) (t0 : Sr), (stP E t0 pre).od = t0.od ++ pre
  | [], t0 => by simp [stP]
  | p :: pre, t0 => by
    show (stP E (lookP E.G E.v E.m t0 p) pre).od = _
    rw [stP_od E pre, lookP_od, List.append_assoc]; rfl
/-- What holds at the label. -/
def LkJ (E : Se) (L : List Gn) (s : Int) (b : Nat) (F : List Nat) (w0 : World) (bx : Nat) (Fin : Sr) (a : Act) (W : World) : Prop :=
  ∃ v3 v4 Ds tt, a = { tmps := #[.pointer (some ⟨b, 0, none⟩), .pointer (some ⟨bx, 0, none⟩), undef, v3, v4, undef, undef, undef, undef], defers := Ds.map markF } ∧ LkS E L s b F w0 bx Fin Ds [] tt W ∧ Ds.length ≤ tt.od.length
theorem od_le {E : Se} {tt : Sr} (h : OkS E.G E.v E.m tt) : tt.od.length ≤ E.G.length := nodup_lt_len h.odn (fun x hx => h.lt x (h.ods x hx))
set_option maxRecDepth 100000 in
set_option maxHeartbeats 4000000 in
theorem lookAround_any (E : Se) (L : List Gn) (s : Int) (w : World) (b : Nat) (F : List Nat) (t : Sr) (h : SrAt E w b F t) (he : SEnv E L s w) (ok : OkS E.G E.v E.m t) (hol : ∀ x ∈ E.G, x.2.2.length ≤ 20000) :
    CallsIn Fence.wide 9 Tryz.prog 70 #[.pointer (some ⟨b, 0, none⟩)] w fun e w' => e = .returned (.tuple #[]) ∧ Looks E b F (runP E.G E.v E.m (E.G.length - t.od.length) t) w w' := by
  have f48 : Fence.wide.fn 116 := trivial
  have h9 : 1 ≤ 9 := by omega
  have hge : ∀ f ∈ F, E.base ≤ f := fun f hf => (h.fpt f hf).1
  have hlt : ∀ f ∈ F, f < w.heap.size := fun f hf => (h.fpt f hf).2
  obtain ⟨Fin, eFin⟩ : ∃ Fin, runP E.G E.v E.m (E.G.length - t.od.length) t = Fin := ⟨_, rfl⟩
  rw [eFin]
  have B0 : Below w.heap.size w (w.alloc (.cells #[.pointer (some ⟨b, 0, none⟩)] 65)) := below_one (Below.refl _ _) _
  have W0 := Whole.new w 65 #[.pointer (some ⟨b, 0, none⟩)]
  have hsz0 : (w.alloc (.cells #[.pointer (some ⟨b, 0, none⟩)] 65)).heap.size = w.heap.size + 1 := by simp
  have HOL := Lib.hid hol
  have HGE := Lib.hid hge
  refine callsIn_of_wp_marks Tryz.func70 rfl trivial ?_ rfl
  simp only [Tryz.ntmps70, List.size_toArray, List.length_cons, List.length_nil, Nat.reduceAdd, Nat.reduceSub, Array.replicate_succ, Array.replicate_zero, List.push_toArray, List.append_toArray, List.nil_append, List.cons_append]
  rw [wpIn_wide]
  go_wp2
  obtain ⟨w0, ew0⟩ : ∃ w0, w.alloc (.cells #[.pointer (some ⟨b, 0, none⟩)] 65) = w0 := ⟨_, rfl⟩
  obtain ⟨bx, ebx⟩ : ∃ bx, w.heap.size = bx := ⟨_, rfl⟩
  rw [ew0] at B0 W0 hsz0 ⊢
  rw [ebx] at W0 ⊢
  have hK0 : LkS E L s b F w0 bx Fin [] [] t w0 := ⟨F, h.below B0, Turn.refl _ _, fun f hf => .inl hf, by simp, ⟨fun hm => by have := hlt bx hm; omega, W0⟩, MarksF.nil _ _, ok, he.below (B0.mono he.bs), eFin⟩
  have hbs0 : E.base ≤ w0.heap.size := Nat.le_trans he.bs B0.size
  have HBS := Lib.hid hbs0
  have HB0 := Lib.hid B0
  have HBX := Lib.hid ebx
  have hJ0 : LkJ E L s b F w0 bx Fin { tmps := #[.pointer (some ⟨b, 0, none⟩), .pointer (some ⟨bx, 0, none⟩), undef, undef, undef, undef, undef, undef, undef], defers := [] } w0 := ⟨_, _, [], t, rfl, hK0, Nat.zero_le _⟩
  clear h he ok hol hge hlt eFin ew0 ebx B0 W0 hsz0 hK0 hbs0
  refine wp_scope_label (LkJ E L s b F w0 bx Fin) (fun a _ => E.G.length + 1 - a.defers.length) hJ0 ?_
  clear hJ0
  rintro a W ⟨v3, v4, Ds, tt, rfl, hK, hDs⟩
  have hK' := hK
  obtain ⟨F', hS, hT, hF, _, hBX, hM, hO, hE, hR⟩ := hK'
  have hodl := od_le hO
  have cx : W.cell? ⟨bx, 0, none⟩ = some (.pointer (some ⟨b, 0, none⟩)) := hBX.2.cell 0
  have HWT := Lib.hid (waiting_any b W)
  have HK := Lib.hid hK
  clear hS hT hF hBX hM hO hE hR hK
  go_wp2_with (go_at_call 115; refine HWT.out.mono ?_; rintro e W1 ⟨rfl, hW1⟩)
  have B1 : Below W.heap.size W W1 := by rw [hW1]; exact below_one (Below.refl _ _) _
  have HW1 : Hid (Whole W1 W.heap.size 65 #[.pointer (some ⟨b, 0, none⟩)]) := Lib.hid (by rw [hW1]; exact Whole.new W _ _)
  rw [← hW1]
  obtain ⟨bs, ebs⟩ : ∃ bs, W.heap.size = bs := ⟨_, rfl⟩
  have K1 : LkS E L s b F w0 bx Fin Ds [bs] tt W1 := HK.out.below B1 (fun z hz => by
    rw [List.mem_singleton] at hz; subst hz; rw [← ebs]; exact .inr ⟨Nat.le_refl _, HW1.out.lt⟩)
  rw [ebs] at HW1 ⊢
  have HK1 := Lib.hid K1
  clear cx HWT HK hW1 B1 ebs K1
  have hseq : SeqZ Fence.wide (9 - 1) Tryz.prog 133 #[.pointer (some ⟨bs, 0, none⟩)] encP (KS E L s b tt) (fun pre x => nextP (stP E tt pre) = some x) (fun xs => nextP (stP E tt xs) = none) [bs] W1 :=
    fun l J Jx W hW hl hJK hJb hY h0 => waiting_in (9 - 1) l E L s tt b bs J Jx (by omega) hJK hJb hY W h0 (HW1.out.below hW HW1.out.lt)
  rw [← wpIn_wide (n := 9)]
  refine wpIn_rangeFunc_Z (α := Nat) rfl h9 (gf := 133) (lb := #[.pointer (some ⟨bs, 0, none⟩)]) rfl trivial (enters_of Tryz.func133 (by kernel_rfl) rfl)
    hseq (Below.refl _ _) (fun _ => rfl)
    (fun Z pre W => LkS E L s b F w0 bx Fin Ds Z (stP E tt pre) W ∧ (stP E tt pre).ps = tt.ps)
    (fun c Z pre W => c = .goto 0 ∧ pre ≠ [] ∧ LkS E L s b F w0 bx Fin Ds Z (stP E tt pre) W)
    (fun Z pre W h => by
      obtain ⟨⟨F2, h1, h2, h3, h4, h5, h6, h7, h8, h9⟩, hps⟩ := h
      exact ⟨F2, h1, fun z hz => ⟨(h4 z hz).1, (h4 z hz).2.1⟩, hps, h7, h8⟩)
    (fun Z Z2 pre A B h k hZ => ⟨h.1.below k hZ, h.2⟩)
    (fun Z pre W l Lp o' h hl ho => ⟨h.1.put HGE.out HBS.out hl ho rfl (fun x e => by cases e), h.2⟩)
    (fun c Z pre W l Lp o' h hl ho => ⟨h.1, h.2.1, h.2.2.put HGE.out HBS.out hl ho rfl (fun x e => by cases e)⟩)
    ⟨HK1.out, rfl⟩
    (fun x => { tmps := #[.pointer (some ⟨b, 0, none⟩), .pointer (some ⟨bx, 0, none⟩), .int .i64 (x : Int), .pointer (some ⟨b, 0, none⟩), .func (.func 133) #[] #[.pointer (some ⟨bs, 0, none⟩)], .int .i64 (x : Int), undef, undef, undef], defers := [] })
    (fun Z Z2 pre W hs h => by
      obtain ⟨F2, h1, h2, h3⟩ := h
      exact ⟨F2, h1, fun z hz => h2 z (hs z hz), h3⟩)
    ?assign ?body ?done ?stop
  case assign =>
    intro l x W K hK
    simp only [encP]
    gi_wp2
    exact hK
  case body =>
    rintro l Z pre x W ⟨hK, hps⟩ hnx
    obtain ⟨F2, h1, h2, h3, h4, h5, h6, h7, h8, h9⟩ := hK
    have cx : W.cell? ⟨bx, 0, none⟩ = some (.pointer (some ⟨b, 0, none⟩)) := h5.2.cell 0
    have hxp := nextP_some hnx
    have HC := Lib.hid ((lookAt_any E L s W b F2 (stP E tt pre) h1 h8 h7 x (h7.sub x hxp.1) hxp.2 HOL.out).mono (fun e w' hh => LkS.look h1 h2 h3 h4 h5 h6 h7 h8 h9 hnx hh))
    rw [← stP_snoc] at HC
    have HSM : Hid (chgL E.G E.v E.m ⟨(stP E tt pre).ps, (stP E tt pre).cm, (stP E tt pre).od ++ [x]⟩ (outN E.G x) = false → (stP E tt (pre ++ [x])).ps = tt.ps) := Lib.hid (fun hh => by
      rw [stP_snoc, ← hps]
      exact chgL_same _ hh)
    obtain ⟨r, er⟩ : ∃ r, chgL E.G E.v E.m ⟨(stP E tt pre).ps, (stP E tt pre).cm, (stP E tt pre).od ++ [x]⟩ (outN E.G x) = r := ⟨_, rfl⟩
    rw [er] at HC HSM
    clear h1 h2 h3 h4 h5 h6 h7 h8 h9 hps hnx hxp er
    cases r with
    | true =>
      clear HSM
      gi_wp2_with (gi_at_call 116; refine (CallsIn.inRound l (callsIn_wide.2 HC.out)).mono ?_; rintro e W4 ⟨rfl, hk4, hz4⟩; have HK4 := Lib.hid (⟨hz4, hk4⟩ : _ ∧ _); clear hk4 hz4)
      refine wpIn_goto ?_
      exact ⟨HK4.out.1, rfl, by simp, HK4.out.2⟩
    | false =>
      have HPS := Lib.hid (HSM.out rfl)
      clear HSM
      gi_wp2_with (gi_at_call 116; refine (CallsIn.inRound l (callsIn_wide.2 HC.out)).mono ?_; rintro e W4 ⟨rfl, hk4, hz4⟩; have HK4 := Lib.hid (⟨hz4, hk4⟩ : _ ∧ _); clear hk4 hz4)
      exact ⟨HK4.out.1, HK4.out.2, HPS.out⟩
  case done =>
    rintro xs W2 hS ⟨hK, _⟩ hD
    obtain ⟨F2, h1, h2, h3, h4, h5, h6, h7, h8, h9⟩ := hK
    have hnd : W1.heap.size ∉ Ds := fun hm => by
      obtain ⟨_, _, _, _, _, _, k6, _⟩ := HK1.out
      have := k6.lt _ hm
      omega
    have hw01 : w0.heap.size ≤ W1.heap.size := by
      obtain ⟨_, _, k2, _⟩ := HK1.out
      exact k2.size
    have hM : MarksF W2 w0.heap.size (W1.heap.size :: Ds) := ⟨List.nodup_cons.2 ⟨hnd, h6.nodup⟩, fun D hm => by
      rcases List.mem_cons.1 hm with rfl | hm
      · exact ⟨hw01, hD⟩
      · exact h6.at_ D hm⟩
    have hfin : stP E tt xs = Fin := by rw [← h9, runP_none hS]
    rw [hfin] at h1
    have hwB := HB0.out
    have hL : Looks E b F Fin w W2 := ⟨F2, h1, ((Turn.of_below hwB).more (B := F) (by simp)).trans h2 (fun a ha => .inl ha), fun f hf => (h3 f hf).imp_right (fun h => Nat.le_trans hwB.size h)⟩
    exact (leaves_marksF (base := w0.heap.size) (v := .tuple #[]) (fun W => results_none rfl _ _ _) (fun W D hb hd hh => by
      obtain ⟨he, F3, k1, k2, k3⟩ := hh
      have kp := turn_put W D (.deferred none)
      exact ⟨he, F3, k1.turn kp (fun x hx => by rw [List.mem_singleton] at hx; subst hx; exact k1.off hd), k2.trans kp (fun a ha => .inr (by rw [List.mem_singleton] at ha; have := hwB.size; omega)), k3⟩) (W1.heap.size :: Ds) W2 hM ⟨rfl, hL⟩ : LeavesInM Fence.wide 9 Tryz.prog Tryz.f70 _ (fun e w' => e = .returned (.tuple #[]) ∧ Looks E b F Fin w w') _ .returning W2)
  case stop =>
    rintro c Z pre W2 ⟨rfl, hne, hK⟩ hD
    obtain ⟨F2, h1, h2, h3, h4, h5, h6, h7, h8, h9⟩ := hK
    have hnd : W1.heap.size ∉ Ds := fun hm => by
      obtain ⟨_, _, _, _, _, _, k6, _⟩ := HK1.out
      have := k6.lt _ hm
      omega
    have hw01 : w0.heap.size ≤ W1.heap.size := by
      obtain ⟨_, _, k2, _⟩ := HK1.out
      exact k2.size
    have hM : MarksF W2 w0.heap.size (W1.heap.size :: Ds) := ⟨List.nodup_cons.2 ⟨hnd, h6.nodup⟩, fun D hm => by
      rcases List.mem_cons.1 hm with rfl | hm
      · exact ⟨hw01, hD⟩
      · exact h6.at_ D hm⟩
    have hp0 : 0 < pre.length := List.length_pos_iff.2 hne
    have hol : (stP E tt pre).od.length = tt.od.length + pre.length := by rw [stP_od, List.length_append]
    refine wpIn_goto ?_
    refine ⟨rfl, ⟨_, _, W1.heap.size :: Ds, stP E tt pre, rfl, ⟨F2, h1, h2, h3, by simp, h5, hM, h7, h8, h9⟩, by rw [hol, List.length_cons]; omega⟩, ?_⟩
    simp only [List.length_cons, List.length_map]
    omega
end Go.Proofs.YtkmngbkghgelfaaGreat
