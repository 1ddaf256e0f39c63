/- Several texts in one. -/
import Derived.Test.YthbimjkcpmffcaaGreatSo
import Derived.RangeFuncBox
import Derived.RangeFuncNested
import Derived.RangeFuncBound
import Derived.RangeFuncCalls
import Derived.RangeFuncLeaves
import Derived.Shelf.Abstract
import Derived.Shelf.RegionOpen
import Derived.OwnWalkIn
import Derived.TacticsInMore
import Derived.LoopNIn
import Derived.LoopIn
import Derived.Test.YthbimjkcpmffcaaGreatOw
import Derived.Test.YthbimjkcpmffcaaGreatPj
/- An iterator that tells things one after another in an order of its own: its contract and the caller's law. Over any program. -/
namespace Go.Proofs.YthbimjkcpmffcaaGreat
open Go.RowKit
set_option linter.unusedVariables false
/-- The contract of an iterator that may lay, and turn, blocks of its own that are no cells: its round tells that what is no cells, beyond the loop's record, lies as it lay. -/
def SeqN {α : Type} (F : Fence) (n : Nat) (P : Program) (g : Nat) (lb : Array Value) (encs : α → Array Value) (Kp : World → World → Prop) (S Sp : List α → Prop) (Nx : List α → α → Prop) (w : World) : Prop :=
  ∀ (l : Nat) (J Jx : List α → World → Prop) (W : World), Below w.heap.size w W → l < W.heap.size → OwnFrom W.heap.size J → OwnFrom W.heap.size Jx →
    (∀ pre x W1, J pre W1 → Nx pre x → YieldAt F (n - 1) P l (encs x) W1 fun e W' => KeepsFrom (l + 1) W1 W' ∧
      ((e = .returned (.bool true) ∧ J (pre ++ [x]) W' ∧ Kp W1 W') ∨ (e = .returned (.bool false) ∧ Jx (pre ++ [x]) W'))) →
    J [] W →
    CallsIn F n P g (#[.func (.yield l) #[] #[]] ++ lb) W fun e W' => (∃ v, e = .returned v) ∧ ((∃ xs, S xs ∧ J xs W') ∨ (∃ pre, Sp pre ∧ Jx pre W'))

variable {F : Fence} {n : Nat} {P : Program}
/-- The caller's law. -/
theorem wpIn_rangeFunc_N {α : Type} {g : Operand} {ps : Array Tmp} {assign body : Code} {Q : Exit → Act → World → Prop} {a : Act} {w : World}
    (hro : F.round = none) (h1 : 1 ≤ n) {gf : Nat} {lb : Array Value} (hg : a.eval g = .func (.func gf) #[] lb) (hFg : F.fn gf) (eg : ∀ args w, (callFunc gf args).run P w = .ok (.enter gf args) w)
    {encs : α → Array Value} {Kp : World → World → Prop} {S Sp : List α → Prop} {Nx : List α → α → Prop} {w0 : World} (hseq : SeqN F (n - 1) P gf lb encs Kp S Sp Nx w0)
    (hKt : ∀ {A B C : World}, Kp A B → Kp B C → Kp A C) (hKb : ∀ (W : World) (l : Nat) (o o' : Obj), w.heap.size ≤ l → W.heap[l]? = some o → o.isCells = false → o.isWalk = false → Kp W (W.putObj l o'))
    (hb0 : Below w0.heap.size w0 w) (hps : ∀ x, (encs x).size = ps.size)
    (I : List α → World → Prop) (Ix : Code → List α → World → Prop) (hI : OwnFrom w.heap.size I) (hIx : ∀ c, OwnFrom w.heap.size (Ix c)) (h0 : I [] w) (a₁ : α → Act)
    (hassign : ∀ (l : Nat) (x : α) (W : World) (K : Act → World → Prop), K (a₁ x) W →
      assign.wpIn (F.inRound l) (n - 1 - 1) P (Exit.then K (fun _ _ _ => False)) { tmps := (ps.zip (encs x)).foldl (fun t (p, v) => t.setIfInBounds p v) a.tmps, defers := [] } W)
    (hbody : ∀ (l : Nat) (pre : List α) (x : α) (W : World), I pre W → Nx pre x → body.wpIn (F.inRound l) (n - 1 - 1) P (ownPostG w.heap.size Kp I Ix (pre ++ [x]) W) (a₁ x) W)
    (hdone : ∀ (D : Nat) (xs : List α) (W : World), w.heap.size ≤ D → S xs → I xs W → W.heap[D]? = some (.deferred (some [])) → Q .normal { a with defers := { target := .collected D, args := #[] } :: a.defers } W)
    (hstop : ∀ (D : Nat) (c : Code) (pre : List α) (W : World), w.heap.size ≤ D → Sp pre → Ix c pre W → W.heap[D]? = some (.deferred (some [])) → c.wpIn F n P Q { a with defers := { target := .collected D, args := #[] } :: a.defers } W) :
    (Code.rangeFunc g ps assign body).wpIn F n P Q a w := by
  refine wpIn_rangeFunc fun fn hfn => ?_
  rw [hro]
  obtain ⟨R, hR⟩ : ∃ R : LoopState → Option Code → Loop, R = fun st pe => { state := st, pending := pe, fn, tmps := a.tmps, params := ps, assign, body, defers := w.heap.size } := ⟨_, rfl⟩
  have hen := run_enterLoop_outer (P := P) (w := w) fn a.tmps ps assign body
  have hI1 := hI.alloc (.loop (R .ready none)) (hI.alloc (.deferred (some [])) h0)
  have hb1 : Below w0.heap.size w0 ((w.alloc (.deferred (some []))).alloc (.loop (R .ready none))) := hb0.trans ((((Below.refl _ w).alloc (Nat.le_refl _) _).alloc (by simp) _).mono hb0.size)
  have hB1 : Book R w.heap.size .ready none ((w.alloc (.deferred (some []))).alloc (.loop (R .ready none))) := by
    refine ⟨?_, (Below.heap_alloc _ _ _ (by simp)).trans (World.alloc_heap_new w _)⟩
    have := World.alloc_heap_new (w.alloc (.deferred (some []))) (.loop (R .ready none))
    rwa [World.size_alloc] at this
  have hs1 : ((w.alloc (.deferred (some []))).alloc (.loop (R .ready none))).heap.size = w.heap.size + 1 + 1 := by simp
  rw [show ({ state := .ready, pending := none, fn, tmps := a.tmps, params := ps, assign, body, defers := w.heap.size } : Loop) = R .ready none by rw [hR]] at hen
  revert hen hI1 hb1 hB1 hs1
  generalize (w.alloc (.deferred (some []))).alloc (.loop (R .ready none)) = W1
  intro hen hI1 hb1 hB1 hs1
  have hend : ∀ (st : LoopState) (pe : Option Code) (W2 : World), st ≠ .busy → Book R w.heap.size st pe W2 → (Instr.endLoop (w.heap.size + 1)).run P W2 = .ok pe (W2.putObj (w.heap.size + 1) (.loop (R .exhausted pe))) := fun st pe W2 hst hb => by
    have := run_endLoop (P := P) hb.1 (by rw [hR]; exact hst)
    rw [hR] at this ⊢
    exact this
  refine ⟨w.heap.size + 1, [{ target := .collected w.heap.size, args := #[] }], W1, { target := .fn (.func gf) lb, args := #[.func (.yield (w.heap.size + 1)) #[] #[]] }, W1, gf,
    #[.func (.yield (w.heap.size + 1)) #[] #[]] ++ lb, W1, hen, ?_, ?_, ?_, fun _ => h1, ?_⟩
  · simp only [resolve, hg]
    simp [go_sem]
  · intro f' hf'; simp [Target.leads] at hf'; subst hf'; exact hFg
  · simp [invoke, go_sem, eg]
  · refine (hseq (w.heap.size + 1) (fun pre W => I pre W ∧ Book R w.heap.size .ready none W) (fun pre W => ∃ c, Ix c pre W ∧ Book R w.heap.size .done (some c) W) W1 hb1 (by omega)
      ((OwnFrom.more hI (by omega)).and (Book.own R w.heap.size _ (by omega) .ready (fun _ => none)))
      (fun s A B row ⟨c, hc, hb⟩ hg' hr => ⟨c, OwnFrom.more (hIx c) (by omega) s A B row hc hg' hr, Book.own R w.heap.size W1.heap.size (by omega) .done (fun _ : Unit => some c) () A B row hb hg' hr⟩)
      (fun pre x W ⟨hi, hb⟩ hlen => one_round (Kp := Kp) hfn R w.heap.size w.heap.size (Nat.le_refl _) hR (fun h k => hKt h k) hKb I Ix hI hIx pre x (hps x) (a₁ x) _ W (fun K hK => hassign _ x W K hK) (fun W' hi' => hbody _ pre x W' hi' hlen) hi hb)
      ⟨hI1, hB1⟩).mono ?_
    rintro e W2 ⟨⟨v, rfl⟩, (⟨xs, hS, hi, hb⟩ | ⟨pre, hSp, c, hi, hb⟩)⟩
    · exact ⟨none, _, hend .ready none W2 (by decide) hb, hdone _ xs _ (Nat.le_refl _) hS (hI.putObj _ hi (by omega) hb.1 rfl) ((World.putObj_heap_other (by omega)).trans hb.2)⟩
    · exact ⟨some c, _, hend .done (some c) W2 (by decide) hb, hstop _ c pre _ (Nat.le_refl _) hSp ((hIx c).putObj _ hi (by omega) hb.1 rfl) ((World.putObj_heap_other (by omega)).trans hb.2)⟩
end Go.Proofs.YthbimjkcpmffcaaGreat
/- The iterator of package pq: the parts of a list. -/
namespace Go.Proofs.YthbimjkcpmffcaaGreat
open Go.RowKit Go.Shelf
set_option linter.unusedVariables false
attribute [local go_sem] Oper.semAt_some
theorem partsOf_any (A : Option Addr) (n c : Nat) (q : Nat) (w : World) : Calls Tryz.prog 31 #[.slice A n c, .int .i64 q] w fun e w' => e = .returned (.func (.func 90) #[] #[.pointer (some ⟨w.heap.size + 1, 0, none⟩), .pointer (some ⟨w.heap.size, 0, none⟩)]) ∧
    w' = (w.alloc (.cells #[.slice A n c] 25)).alloc (.cells #[.int .i64 q] 3) := by
  go_enter Tryz.func31, Tryz.ntmps31
  go_wp2
  go_ret
  exact ⟨rfl, rfl⟩
theorem grownB_of {w w' : World} (h : Below w.heap.size w w') : w.grownBy w' none := ⟨h.os, h.tape, h.output, h.size, fun k hk _ => h.block k hk⟩
/-- The boxes of the iterator: how many, and the list. -/
def KB (B1 B2 : Nat) : Nat → TypeId → Prop := fun k _ => k = B1 ∨ k = B2
/-- A part as it is told. -/
def encI (b off n d : Nat) (p : Nat) : Array Value := #[.int .i64 p, .slice (some ⟨b, off + beg p n d, none⟩) (beg (p + 1) n d - beg p n d) (beg (p + 1) n d - beg p n d)]
set_option maxRecDepth 100000 in
set_option maxHeartbeats 2000000 in
theorem partsI_in (n m l B1 B2 b off d c : Nat) (hn : 1 ≤ n) (hnd : n ≤ d) (hd : d ≤ 64) (hdc : d ≤ c) (J Jx : List Nat → World → Prop) (D : Nat) (hJo : OwnFrom D J)
    (hY : ∀ pre x W, J pre W → x = pre.length ∧ x < n → YieldAt Fence.wide (m - 1) Tryz.prog l (encI b off n d x) W fun e W' =>
      (e = .returned (.bool true) ∧ J (pre ++ [x]) W' ∧ Keeps (KB B1 B2) W W') ∨ (e = .returned (.bool false) ∧ Jx (pre ++ [x]) W'))
    (W : World) (h1 : Whole W B1 3 #[.int .i64 n]) (h2 : Whole W B2 25 #[.slice (some ⟨b, off, none⟩) d c]) (h0 : J [] W) (hm : 1 ≤ m) :
    CallsIn Fence.wide m Tryz.prog 90 #[.func (.yield l) #[] #[], .pointer (some ⟨B1, 0, none⟩), .pointer (some ⟨B2, 0, none⟩)] W fun e W' => (∃ v, e = .returned v) ∧
      ((∃ ys : List Nat, ys.length = n ∧ J ys W') ∨ (∃ pre : List Nat, True ∧ Jx pre W')) := by
  have c1 := h1.cell 0
  have HW1 := Lib.hid h1
  have HW2 := Lib.hid h2
  clear h1 h2
  refine callsIn_of_wp Tryz.func90 rfl trivial ?_ rfl
  simp only [Tryz.ntmps90, List.size_toArray, List.length_cons, List.length_nil, Nat.reduceAdd, Nat.reduceSub, Array.replicate_succ, Array.replicate_zero, List.push_toArray, List.append_toArray, List.nil_append, List.cons_append]
  gi_wp2
  gi_loopw [8] (fun i wr => ∃ (p : Nat) (pre : List Nat), i = .int .i64 p ∧ p ≤ n ∧ p = pre.length ∧ J pre wr ∧ Keeps (KB B1 B2) W wr) (fun i _ => n - (intOf i).toNat)
  case atStart => exact ⟨0, [], rfl, by omega, rfl, h0, Keeps.refl _ _⟩
  case round =>
    clear h0 c1
    obtain ⟨p, pre, rfl, hp, hpl, hJ, hK⟩ := hrel
    have HK := Lib.hid hK
    have HP := Lib.hid hpl
    clear hK hpl
    by_cases hlt : p < n
    · have e1 : decide ((p : Int) < (n : Int)) = true := decide_eq_true (by omega)
      have c1 : wr.cell? ⟨B1, 0, none⟩ = some (.int .i64 n) := (show Whole wr B1 3 _ from HK.out.same B1 _ _ _ (.inl rfl) HW1.out).cell 0
      have c2 : wr.cell? ⟨B2, 0, none⟩ = some (.slice (some ⟨b, off, none⟩) d c) := (show Whole wr B2 25 _ from HK.out.same B2 _ _ _ (.inr rfl) HW2.out).cell 0
      obtain ⟨q1, q2, q3⟩ := beg_val p n d hn (by omega) hd
      obtain ⟨q4, q5, q6⟩ := beg_val (p + 1) n d hn (by omega) hd
      obtain ⟨m1, hm1⟩ : ∃ m1, p * d = m1 := ⟨_, rfl⟩
      obtain ⟨m2, hm2⟩ : ∃ m2, (p + 1) * d = m2 := ⟨_, rfl⟩
      have em1 : (p : Int) * (d : Int) = (m1 : Int) := by rw [← Int.natCast_mul, hm1]
      have em2 : ((p : Int) + 1) * (d : Int) = (m2 : Int) := by
        have : ((p + 1 : Nat) : Int) * (d : Int) = (m2 : Int) := by rw [← Int.natCast_mul, hm2]
        rwa [show ((p + 1 : Nat) : Int) = (p : Int) + 1 by omega] at this
      rw [em1] at q3
      rw [show ((p + 1 : Nat) : Int) = (p : Int) + 1 by omega, em2] at q6
      rw [hm1] at q1
      rw [hm2] at q4
      have HB := Lib.hid q3
      have HB2 := Lib.hid q6
      have n0 : ((n : Int) == 0) = false := by rw [beq_eq_false_iff_ne]; omega
      have wr1 : IntKind.i64.wrap ((p : Int) * (d : Int)) = (m1 : Int) := by rw [em1, IntKind.wrap_i64]; omega
      have wr2 : IntKind.i64.wrap (((p : Int) + 1) * (d : Int)) = (m2 : Int) := by rw [em2, IntKind.wrap_i64]; omega
      clear q3 q6 em1 em2 hm1 hm2
      gi_wp2
      gi_region
      have z1 : wrap64 ((m1 : Int) / (n : Int)) = ((beg p n d : Nat) : Int) := by rw [HB.out]; unfold wrap64; omega
      have z2 : wrap64 ((m2 : Int) / (n : Int)) = ((beg (p + 1) n d : Nat) : Int) := by rw [HB2.out]; unfold wrap64; omega
      rw [z1, z2]
      have hJ1 := hJo pre wr wr.drew none hJ (grownB_of (Below.refl _ _).drew) (fun r hr => by cases hr)
      have HK1 := Lib.hid (HK.out.trans (Keeps.drew (KB B1 B2) wr))
      have c2 : wr.drew.cell? ⟨B2, 0, none⟩ = some (.slice (some ⟨b, off, none⟩) d c) := (show Whole wr.drew B2 25 _ from HK1.out.same B2 _ _ _ (.inr rfl) HW2.out).cell 0
      obtain ⟨fn, tmps, assign, body, hyy, hR⟩ := hY pre p wr.drew hJ1 ⟨HP.out, hlt⟩
      have b1 := beg_step (p := p) (n := n) (d := d) hn hnd
      have b2 := beg_le (p := p + 1) (n := n) (d := d) hn (by omega)
      unfold encI at hyy
      revert hyy b1 b2
      generalize beg p n d = f1
      generalize beg (p + 1) n d = f2
      intro hyy b1 b2
      obtain ⟨k, rfl⟩ : ∃ k, f2 = f1 + k := ⟨f2 - f1, by omega⟩
      rw [Nat.add_sub_cancel_left] at hyy
      have hy' : (Instr.yield l #[.int .i64 p, .slice (some ⟨b, off + f1, none⟩) k k]).run Tryz.prog wr.drew = .ok (.round l fn tmps assign body) wr.drew := hyy
      have HR := Lib.hid hR
      clear z1 z2 HB HB2 n0 wr1 wr2 hR hyy HK c1 hJ q1 q2 q4 q5
      obtain ⟨W1, eW⟩ : ∃ W1, wr.drew = W1 := ⟨_, rfl⟩
      rw [eW] at hJ1 HK1 c2 hy' HR ⊢
      clear eW
      gi_wp2
      refine HR.out.mono ?_
      rintro e W4 (⟨rfl, hJ4, hK4⟩ | ⟨rfl, hJx⟩)
      · gi_wp2
        go_roundw
        case rel =>
          refine ⟨p + 1, pre ++ [p], by go_num, by omega, ?_, hJ4, HK1.out.trans hK4⟩
          rw [List.length_append, List.length_singleton, ← HP.out]
        case measure => simp [intOf]; omega
      · gi_wp2
        refine bodyPost_ret (results_none rfl _ _ _) rfl ?_
        exact ⟨⟨_, rfl⟩, .inr ⟨_, trivial, hJx⟩⟩
    · obtain rfl : p = n := by omega
      gi_wp2
      go_end0
      exact ⟨⟨_, rfl⟩, .inl ⟨pre, HP.out.symm, hJ⟩⟩
/-- The iterator's contract. -/
theorem partsI_seq (n m B1 B2 b off d c : Nat) (hn : 1 ≤ n) (hnd : n ≤ d) (hd : d ≤ 64) (hdc : d ≤ c) (hm : 1 ≤ m) (w : World) (hb1 : Whole w B1 3 #[.int .i64 n]) (hb2 : Whole w B2 25 #[.slice (some ⟨b, off, none⟩) d c]) :
    SeqN Fence.wide m Tryz.prog 90 #[.pointer (some ⟨B1, 0, none⟩), .pointer (some ⟨B2, 0, none⟩)] (encI b off n d) (Keeps (KB B1 B2)) (fun ys => ys.length = n) (fun _ => True) (fun pre x => x = pre.length ∧ x < n) w :=
  fun l J Jx W hW hl hJ hJx hY h0 => partsI_in n m l B1 B2 b off d c hn hnd hd hdc J Jx W.heap.size hJ (fun pre x W1 hJ1 hx => (hY pre x W1 hJ1 hx).mono fun e W' h => h.2) W ((hb1.below hW hb1.lt)) ((hb2.below hW hb2.lt)) h0 hm
end Go.Proofs.YthbimjkcpmffcaaGreat
/- The iterator of package pq: the parts of a list of nothings. -/
namespace Go.Proofs.YthbimjkcpmffcaaGreat
open Go.RowKit Go.Shelf
set_option linter.unusedVariables false
attribute [local go_sem] Oper.semAt_some
theorem partsS_any (A : Option Addr) (n c : Nat) (q : Nat) (w : World) : Calls Tryz.prog 40 #[.slice A n c, .int .i64 q] w fun e w' => e = .returned (.func (.func 96) #[] #[.pointer (some ⟨w.heap.size + 1, 0, none⟩), .pointer (some ⟨w.heap.size, 0, none⟩)]) ∧
    w' = (w.alloc (.cells #[.slice A n c] 91)).alloc (.cells #[.int .i64 q] 3) := by
  go_enter Tryz.func40, Tryz.ntmps40
  go_wp2
  go_ret
  exact ⟨rfl, rfl⟩
/-- A part as it is told. -/
def encS (b n d : Nat) (p : Nat) : Array Value := #[.int .i64 p, .slice (some ⟨b, 0, none⟩) (beg (p + 1) n d - beg p n d) (beg (p + 1) n d - beg p n d)]
set_option maxRecDepth 100000 in
set_option maxHeartbeats 2000000 in
theorem partsS_in (n m l B1 B2 b d c : Nat) (hn : 1 ≤ n) (hnd : n ≤ d) (hd : d ≤ 64) (hdc : d ≤ c) (J Jx : List Nat → World → Prop) (D : Nat) (hJo : OwnFrom D J)
    (hY : ∀ pre x W, J pre W → x = pre.length ∧ x < n → YieldAt Fence.wide (m - 1) Tryz.prog l (encS b n d x) W fun e W' =>
      (e = .returned (.bool true) ∧ J (pre ++ [x]) W' ∧ Keeps (KB B1 B2) W W') ∨ (e = .returned (.bool false) ∧ Jx (pre ++ [x]) W'))
    (W : World) (h1 : Whole W B1 3 #[.int .i64 n]) (h2 : Whole W B2 91 #[.slice (some ⟨b, 0, none⟩) d c]) (h0 : J [] W) (hm : 1 ≤ m) :
    CallsIn Fence.wide m Tryz.prog 96 #[.func (.yield l) #[] #[], .pointer (some ⟨B1, 0, none⟩), .pointer (some ⟨B2, 0, none⟩)] W fun e W' => (∃ v, e = .returned v) ∧
      ((∃ ys : List Nat, ys.length = n ∧ J ys W') ∨ (∃ pre : List Nat, True ∧ Jx pre W')) := by
  have c1 := h1.cell 0
  have HW1 := Lib.hid h1
  have HW2 := Lib.hid h2
  clear h1 h2
  refine callsIn_of_wp Tryz.func96 rfl trivial ?_ rfl
  simp only [Tryz.ntmps96, List.size_toArray, List.length_cons, List.length_nil, Nat.reduceAdd, Nat.reduceSub, Array.replicate_succ, Array.replicate_zero, List.push_toArray, List.append_toArray, List.nil_append, List.cons_append]
  gi_wp2
  gi_loopw [8] (fun i wr => ∃ (p : Nat) (pre : List Nat), i = .int .i64 p ∧ p ≤ n ∧ p = pre.length ∧ J pre wr ∧ Keeps (KB B1 B2) W wr) (fun i _ => n - (intOf i).toNat)
  case atStart => exact ⟨0, [], rfl, by omega, rfl, h0, Keeps.refl _ _⟩
  case round =>
    clear h0 c1
    obtain ⟨p, pre, rfl, hp, hpl, hJ, hK⟩ := hrel
    have HK := Lib.hid hK
    have HP := Lib.hid hpl
    clear hK hpl
    by_cases hlt : p < n
    · have e1 : decide ((p : Int) < (n : Int)) = true := decide_eq_true (by omega)
      have c1 : wr.cell? ⟨B1, 0, none⟩ = some (.int .i64 n) := (show Whole wr B1 3 _ from HK.out.same B1 _ _ _ (.inl rfl) HW1.out).cell 0
      have c2 : wr.cell? ⟨B2, 0, none⟩ = some (.slice (some ⟨b, 0, none⟩) d c) := (show Whole wr B2 91 _ from HK.out.same B2 _ _ _ (.inr rfl) HW2.out).cell 0
      obtain ⟨q1, q2, q3⟩ := beg_val p n d hn (by omega) hd
      obtain ⟨q4, q5, q6⟩ := beg_val (p + 1) n d hn (by omega) hd
      obtain ⟨m1, hm1⟩ : ∃ m1, p * d = m1 := ⟨_, rfl⟩
      obtain ⟨m2, hm2⟩ : ∃ m2, (p + 1) * d = m2 := ⟨_, rfl⟩
      have em1 : (p : Int) * (d : Int) = (m1 : Int) := by rw [← Int.natCast_mul, hm1]
      have em2 : ((p : Int) + 1) * (d : Int) = (m2 : Int) := by
        have : ((p + 1 : Nat) : Int) * (d : Int) = (m2 : Int) := by rw [← Int.natCast_mul, hm2]
        rwa [show ((p + 1 : Nat) : Int) = (p : Int) + 1 by omega] at this
      rw [em1] at q3
      rw [show ((p + 1 : Nat) : Int) = (p : Int) + 1 by omega, em2] at q6
      rw [hm1] at q1
      rw [hm2] at q4
      have HB := Lib.hid q3
      have HB2 := Lib.hid q6
      have n0 : ((n : Int) == 0) = false := by rw [beq_eq_false_iff_ne]; omega
      have wr1 : IntKind.i64.wrap ((p : Int) * (d : Int)) = (m1 : Int) := by rw [em1, IntKind.wrap_i64]; omega
      have wr2 : IntKind.i64.wrap (((p : Int) + 1) * (d : Int)) = (m2 : Int) := by rw [em2, IntKind.wrap_i64]; omega
      clear q3 q6 em1 em2 hm1 hm2
      gi_wp2
      gi_region
      have z1 : wrap64 ((m1 : Int) / (n : Int)) = ((beg p n d : Nat) : Int) := by rw [HB.out]; unfold wrap64; omega
      have z2 : wrap64 ((m2 : Int) / (n : Int)) = ((beg (p + 1) n d : Nat) : Int) := by rw [HB2.out]; unfold wrap64; omega
      rw [z1, z2]
      have hJ1 := hJo pre wr wr.drew none hJ (grownB_of (Below.refl _ _).drew) (fun r hr => by cases hr)
      have HK1 := Lib.hid (HK.out.trans (Keeps.drew (KB B1 B2) wr))
      have c2 : wr.drew.cell? ⟨B2, 0, none⟩ = some (.slice (some ⟨b, 0, none⟩) d c) := (show Whole wr.drew B2 91 _ from HK1.out.same B2 _ _ _ (.inr rfl) HW2.out).cell 0
      obtain ⟨fn, tmps, assign, body, hyy, hR⟩ := hY pre p wr.drew hJ1 ⟨HP.out, hlt⟩
      have b1 := beg_step (p := p) (n := n) (d := d) hn hnd
      have b2 := beg_le (p := p + 1) (n := n) (d := d) hn (by omega)
      unfold encS at hyy
      revert hyy b1 b2
      generalize beg p n d = f1
      generalize beg (p + 1) n d = f2
      intro hyy b1 b2
      obtain ⟨k, rfl⟩ : ∃ k, f2 = f1 + k := ⟨f2 - f1, by omega⟩
      rw [Nat.add_sub_cancel_left] at hyy
      have hy' : (Instr.yield l #[.int .i64 p, .slice (some ⟨b, 0, none⟩) k k]).run Tryz.prog wr.drew = .ok (.round l fn tmps assign body) wr.drew := hyy
      have HR := Lib.hid hR
      clear z1 z2 HB HB2 n0 wr1 wr2 hR hyy HK c1 hJ q1 q2 q4 q5
      obtain ⟨W1, eW⟩ : ∃ W1, wr.drew = W1 := ⟨_, rfl⟩
      rw [eW] at hJ1 HK1 c2 hy' HR ⊢
      clear eW
      gi_wp2
      refine HR.out.mono ?_
      rintro e W4 (⟨rfl, hJ4, hK4⟩ | ⟨rfl, hJx⟩)
      · gi_wp2
        go_roundw
        case rel =>
          refine ⟨p + 1, pre ++ [p], by go_num, by omega, ?_, hJ4, HK1.out.trans hK4⟩
          rw [List.length_append, List.length_singleton, ← HP.out]
        case measure => simp [intOf]; omega
      · gi_wp2
        refine bodyPost_ret (results_none rfl _ _ _) rfl ?_
        exact ⟨⟨_, rfl⟩, .inr ⟨_, trivial, hJx⟩⟩
    · obtain rfl : p = n := by omega
      gi_wp2
      go_end0
      exact ⟨⟨_, rfl⟩, .inl ⟨pre, HP.out.symm, hJ⟩⟩
/-- The iterator's contract. -/
theorem partsS_seq (n m B1 B2 b d c : Nat) (hn : 1 ≤ n) (hnd : n ≤ d) (hd : d ≤ 64) (hdc : d ≤ c) (hm : 1 ≤ m) (w : World) (hb1 : Whole w B1 3 #[.int .i64 n]) (hb2 : Whole w B2 91 #[.slice (some ⟨b, 0, none⟩) d c]) :
    SeqN Fence.wide m Tryz.prog 96 #[.pointer (some ⟨B1, 0, none⟩), .pointer (some ⟨B2, 0, none⟩)] (encS b n d) (Keeps (KB B1 B2)) (fun ys => ys.length = n) (fun _ => True) (fun pre x => x = pre.length ∧ x < n) w :=
  fun l J Jx W hW hl hJ hJx hY h0 => partsS_in n m l B1 B2 b d c hn hnd hd hdc J Jx W.heap.size hJ (fun pre x W1 hJ1 hx => (hY pre x W1 hJ1 hx).mono fun e W' h => h.2) W ((hb1.below hW hb1.lt)) ((hb2.below hW hb2.lt)) h0 hm
end Go.Proofs.YthbimjkcpmffcaaGreat
