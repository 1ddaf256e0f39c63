/- A heap that is not there, and any heap: the methods' contracts for both. -/
import Derived.Test.YtaempklgmoabcaaGreatHh
import Derived.Test.YtaempklgmoabcaaGreatHm
namespace Go.Proofs.YtaempklgmoabcaaGreat
open Go.Shelf Go.RowKit Go.Lib
open Go.Sort hiding Below
set_option linter.unusedVariables false
/-- A heap that New did not make: none, or a zero one in block zb. -/
def Idle (w : World) (hv : Value) (F : List Nat) : Prop := (hv = .pointer none ∧ F = []) ∨ ∃ zb, hv = .pointer (some ⟨zb, 0, none⟩) ∧ F = [zb] ∧ Whole w zb 36 #[.slice none 0 0, .map none, .int .i64 0]
theorem Idle.turn {A F : List Nat} {w w' : World} {hv : Value} (h : Idle w hv F) (k : Turn A w w') (hd : ∀ f ∈ F, f ∉ A) : Idle w' hv F := by
  rcases h with h | ⟨zb, h1, h2, h3⟩
  · exact .inl h
  · exact .inr ⟨zb, h1, h2, h3.turn k (hd zb (by rw [h2]; simp))⟩
theorem idle_there {w : World} {hv : Value} {F : List Nat} (h : Idle w hv F) : Calls Tryz.prog 20 #[hv] w fun e w' => e = .returned (.bool false) ∧ w' = w := by
  rcases h with ⟨rfl, _⟩ | ⟨zb, rfl, _, h3⟩
  · exact there_none w
  · have := there_any zb _ _ _ w h3
    rwa [show decide ((0 : Int) < (0 : Int)) = false from rfl] at this
theorem idle_len {w : World} {hv : Value} {F : List Nat} (h : Idle w hv F) : Calls Tryz.prog 12 #[hv] w fun e w' => e = .returned (.int .i64 0) ∧ w' = w := by
  have H1 := Lib.hid (idle_there h)
  clear h
  go_enter Tryz.func12, Tryz.ntmps12
  go_wp2_with fail
  refine H1.out.mono ?_
  rintro e w1 ⟨rfl, rfl⟩
  go_wp2
  go_ret
  exact ⟨rfl, rfl⟩
theorem idle_hits {w : World} {hv : Value} {F : List Nat} (h : Idle w hv F) : Calls Tryz.prog 14 #[hv] w fun e w' => e = .returned (.slice none 0 0) ∧ w' = w := by
  have H1 := Lib.hid (idle_there h)
  clear h
  go_enter Tryz.func14, Tryz.ntmps14
  go_wp2_with fail
  refine H1.out.mono ?_
  rintro e w1 ⟨rfl, rfl⟩
  go_wp2
  go_ret
  exact ⟨rfl, rfl⟩
set_option maxRecDepth 100000 in
theorem idle_worst {w : World} {hv : Value} {F : List Nat} (h : Idle w hv F) :
    Calls Tryz.prog 10 #[hv] w fun e w' => e = .returned (.tuple #[.agg #[.int .u64 0, .int .i64 0], .bool false]) ∧ Turn [] w w' := by
  have t0 : Turn [] w (w.alloc (.cells #[.int .u64 0, .int .i64 0] 53)) := (Turn.refl _ _).alloc _
  have W0 := Whole.new w 53 #[.int .u64 0, .int .i64 0]
  have H1 := Lib.hid (idle_len (h.turn t0 (fun f _ => by simp)))
  clear h
  go_enter Tryz.func10, Tryz.ntmps10
  go_wp2_with fail
  generalize w.alloc (.cells #[.int .u64 0, .int .i64 0] 53) = w0 at t0 W0 H1 ⊢
  generalize hp : w.heap.size = p at W0 ⊢
  have HP := Lib.hid (show w.heap.size ≤ p by omega)
  clear hp
  have d1 : w0.cell? ⟨p, 0, none⟩ = some (.int .u64 0) := W0.cell 0
  have d2 : w0.cell? ⟨p, 1, none⟩ = some (.int .i64 0) := W0.cell 1
  have f1 := W0.frozen 0
  have f2 := W0.frozen 1
  refine H1.out.mono ?_
  rintro e w1 ⟨rfl, rfl⟩
  go_wp2
  (try simp only [Exit.inBlock, Exit.then])
  refine bodyPost_ret (v := .tuple #[.agg #[.int .u64 0, .int .i64 0], .bool false]) (by rw [results_ct rfl]; go_simp) rfl ?_
  exact ⟨rfl, (t0.setCell (p := ⟨p, 0, none⟩) (.inr HP.out) _).setCell (p := ⟨p, 1, none⟩) (.inr HP.out) _⟩
set_option maxRecDepth 100000 in
theorem idle_pop {w : World} {hv : Value} {F : List Nat} (h : Idle w hv F) :
    Calls Tryz.prog 6 #[hv] w fun e w' => e = .returned (.tuple #[.agg #[.int .u64 0, .int .i64 0], .bool false]) ∧ Turn [] w w' := by
  have t0 : Turn [] w (w.alloc (.cells #[.int .u64 0, .int .i64 0] 53)) := (Turn.refl _ _).alloc _
  have W0 := Whole.new w 53 #[.int .u64 0, .int .i64 0]
  have H1 := Lib.hid (idle_len (h.turn t0 (fun f _ => by simp)))
  clear h
  go_enter Tryz.func6, Tryz.ntmps6
  go_wp2_with fail
  generalize w.alloc (.cells #[.int .u64 0, .int .i64 0] 53) = w0 at t0 W0 H1 ⊢
  generalize hp : w.heap.size = p at W0 ⊢
  have HP := Lib.hid (show w.heap.size ≤ p by omega)
  clear hp
  have d1 : w0.cell? ⟨p, 0, none⟩ = some (.int .u64 0) := W0.cell 0
  have d2 : w0.cell? ⟨p, 1, none⟩ = some (.int .i64 0) := W0.cell 1
  have f1 := W0.frozen 0
  have f2 := W0.frozen 1
  refine H1.out.mono ?_
  rintro e w1 ⟨rfl, rfl⟩
  go_wp2
  (try simp only [Exit.inBlock, Exit.then])
  refine bodyPost_ret (v := .tuple #[.agg #[.int .u64 0, .int .i64 0], .bool false]) (by rw [results_ct rfl]; go_simp) rfl ?_
  exact ⟨rfl, (t0.setCell (p := ⟨p, 0, none⟩) (.inr HP.out) _).setCell (p := ⟨p, 1, none⟩) (.inr HP.out) _⟩
set_option maxRecDepth 100000 in
theorem idle_push {w : World} {hv : Value} {F : List Nat} (x y : Int) (h : Idle w hv F) :
    Calls Tryz.prog 8 #[hv, .agg #[.int .u64 x, .int .i64 y]] w fun e w' => e = .returned (.bool false) ∧ Turn [] w w' := by
  have mixed : Tryz.prog.follows .mixedOrders = true := by kernel_rfl
  have t0 : Turn [] w (w.alloc (.cells #[.int .u64 x, .int .i64 y] 53)) := (Turn.refl _ _).alloc _
  have h0 := h.turn t0 (fun f _ => by simp)
  clear h
  go_enter Tryz.func8, Tryz.ntmps8
  go_wp2
  generalize w.alloc (.cells #[.int .u64 x, .int .i64 y] 53) = w0 at t0 h0 ⊢
  have HT : Hid (∀ n' os', Calls Tryz.prog 20 #[hv] (grow (w0.drewN n') os') fun e w' => e = .returned (.bool false) ∧ ∃ q os'', w' = grow ((grow (w0.drewN n') os').drewN q) os'') := fun n' os' =>
    (idle_there (h0.turn (turn_grow w0 n' os') (fun f _ => by simp))).mono fun e w' hh => ⟨hh.1, 0, #[], by rw [hh.2]; exact grow_zero _⟩
  clear h0
  refine wp_region_quiet_grown mixed (by kernel_rfl) ?_
  repeat (go_big_quiet_step (first | (go_at_call 20; with_reducible refine Calls.grown_of (HT.out _ _))))
  refine wpQuiet_nil ?_
  intro _ hw'
  obtain ⟨⟨nq', osq⟩, hw''⟩ := hw'
  subst hw''
  go_wp2
  go_ret
  exact ⟨rfl, t0.trans (turn_grow w0 nq' osq) (fun a ha => by simp at ha)⟩
end Go.Proofs.YtaempklgmoabcaaGreat
