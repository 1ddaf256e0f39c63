/- Any heap, and the document's heap (a list): the contracts of their methods. -/
import Derived.Test.YtaempklgmoabcaaGreatPa
import Derived.Test.YtaempklgmoabcaaGreatVx
namespace Go.Proofs.YtaempklgmoabcaaGreat
open Go.Shelf Go.RowKit Go.Lib
open Go.Sort hiding Below
set_option linter.unusedVariables false
/-- A heap, there or not, that keeps ys. -/
def HG (w : World) (hv : Value) (F : List Nat) (most : Nat) (ys : HL) : Prop := (Idle w hv F ∧ most = 0 ∧ ys = []) ∨ ∃ b, hv = .pointer (some ⟨b, 0, none⟩) ∧ HeapIs w b F most ys
theorem HG.turn {A F : List Nat} {w w' : World} {hv : Value} {most : Nat} {ys : HL} (h : HG w hv F most ys) (k : Turn A w w') (hd : ∀ f ∈ F, f ∉ A) : HG w' hv F most ys := by
  rcases h with ⟨h1, h2, h3⟩ | ⟨b, h1, h2⟩
  · exact .inl ⟨h1.turn k hd, h2, h3⟩
  · exact .inr ⟨b, h1, h2.turn k hd⟩
theorem HG.lt {F : List Nat} {w : World} {hv : Value} {most : Nat} {ys : HL} (h : HG w hv F most ys) : ∀ f ∈ F, f < w.heap.size := by
  rcases h with ⟨h1, h2, h3⟩ | ⟨b, h1, h2⟩
  · rcases h1 with ⟨_, rfl⟩ | ⟨zb, _, rfl, h5⟩
    · intro f hf; simp at hf
    · intro f hf; simp at hf; rw [hf]; exact h5.lt
  · exact h2.lt
theorem HG.le {F : List Nat} {w : World} {hv : Value} {most : Nat} {ys : HL} (h : HG w hv F most ys) : ys.length ≤ most ∧ most ≤ 256 := by
  rcases h with ⟨h1, rfl, rfl⟩ | ⟨b, h1, h2⟩
  · exact ⟨Nat.le_refl _, by omega⟩
  · exact ⟨h2.facts.2.2.1, h2.facts.2.2.2.1⟩
def tookG (most : Nat) (ys : HL) (z : Int × Int) : Bool := decide (most ≠ 0) && tookH most ys z
def pushG (most : Nat) (ys : HL) (z : Int × Int) : HL := if most = 0 then ys else pushH most ys z
def outV (ys : HL) : Value := .tuple #[hitV (lastH ys), .bool (decide (0 < ys.length))]
theorem outV_nil : outV [] = .tuple #[.agg #[.int .u64 0, .int .i64 0], .bool false] := rfl
theorem outV_pos {ys : HL} (h : 0 < ys.length) : outV ys = .tuple #[hitV (lastH ys), .bool true] := by unfold outV; rw [decide_eq_true h]
theorem gLen (hv : Value) (F : List Nat) (most : Nat) (ys : HL) (w : World) (h : HG w hv F most ys) : Calls Tryz.prog 12 #[hv] w fun e w' => e = .returned (.int .i64 (ys.length : Int)) ∧ w' = w := by
  rcases h with ⟨h1, rfl, rfl⟩ | ⟨b, rfl, h2⟩
  · exact idle_len h1
  · exact hLen_any b F most ys w h2
theorem gWorst (hv : Value) (F : List Nat) (most : Nat) (ys : HL) (w : World) (h : HG w hv F most ys) : Calls Tryz.prog 10 #[hv] w fun e w' => e = .returned (outV ys) ∧ Turn [] w w' := by
  rcases h with ⟨h1, rfl, rfl⟩ | ⟨b, rfl, h2⟩
  · rw [outV_nil]; exact idle_worst h1
  · rcases Nat.eq_zero_or_pos ys.length with h0 | h0
    · obtain rfl := List.eq_nil_of_length_eq_zero h0
      rw [outV_nil]; exact hWorst_no b F most w h2
    · rw [outV_pos h0]; exact hWorst_yes b F most ys w h2 h0
def PopG (hv : Value) (F : List Nat) (most : Nat) (ys : HL) (w : World) (e : Ending) (w' : World) : Prop := e = .returned (outV ys) ∧ HG w' hv F most ys.dropLast ∧ Turn F w w'
theorem gPop (hv : Value) (F : List Nat) (most : Nat) (ys : HL) (w : World) (h : HG w hv F most ys) : Calls Tryz.prog 6 #[hv] w (PopG hv F most ys w) := by
  rcases h with ⟨h1, rfl, rfl⟩ | ⟨b, rfl, h2⟩
  · refine (idle_pop h1).mono fun e w' hh => ⟨by rw [outV_nil]; exact hh.1, .inl ⟨h1.turn hh.2 (fun f _ => by simp), rfl, rfl⟩, hh.2.more (fun a ha => by simp at ha)⟩
  · rcases Nat.eq_zero_or_pos ys.length with h0 | h0
    · obtain rfl := List.eq_nil_of_length_eq_zero h0
      exact (hPopM_no b F most w h2).mono fun e w' hh => ⟨by rw [outV_nil]; exact hh.1, .inr ⟨b, rfl, h2.turn hh.2 (fun f _ => by simp)⟩, hh.2.more (fun a ha => by simp at ha)⟩
    · exact (hPopM_yes b F most ys w h2 h0).mono fun e w' hh => ⟨by rw [outV_pos h0]; exact hh.1, .inr ⟨b, rfl, hh.2.1⟩, hh.2.2⟩
def PushG (hv : Value) (F : List Nat) (most : Nat) (ys : HL) (z : Int × Int) (w : World) (e : Ending) (w' : World) : Prop :=
  e = .returned (.bool (tookG most ys z)) ∧ ∃ F', HG w' hv F' most (pushG most ys z) ∧ Turn F w w' ∧ ∀ f ∈ F', f ∈ F ∨ w.heap.size ≤ f
theorem gPush (hv : Value) (F : List Nat) (most : Nat) (ys : HL) (x y : Int) (w : World) (h : HG w hv F most ys) (hx : HitOk (x, y)) : Calls Tryz.prog 8 #[hv, .agg #[.int .u64 x, .int .i64 y]] w (PushG hv F most ys (x, y) w) := by
  rcases h with ⟨h1, rfl, rfl⟩ | ⟨b, rfl, h2⟩
  · exact (idle_push x y h1).mono fun e w' hh => ⟨hh.1, F, .inl ⟨h1.turn hh.2 (fun f _ => by simp), rfl, rfl⟩, hh.2.more (fun a ha => by simp at ha), fun f hf => .inl hf⟩
  · have hm : most ≠ 0 := by have := h2.facts.2.2.2.2.1; omega
    refine (hPushM_any b F most ys x y w h2 hx).mono ?_
    rintro e w' ⟨h3, F', h4, h5, h6⟩
    exact ⟨by rw [h3]; simp [tookG, hm], F', .inr ⟨b, rfl, by simpa [pushG, hm] using h4⟩, h5, h6⟩
/-- What Hits answers: nil, or a new block. -/
def HitsG (ys : HL) (w : World) (e : Ending) (w' : World) : Prop := ∃ A, e = .returned (.slice A ys.length ys.length) ∧ w'.ownsRow 0 53 2 (.slice A ys.length ys.length) ys.length (flatH ys) ∧ (∀ g, (Value.slice A ys.length ys.length).ownBlock = some g → w.heap.size ≤ g) ∧ Turn [] w w'
theorem gHits (hv : Value) (F : List Nat) (most : Nat) (ys : HL) (w : World) (h : HG w hv F most ys) : Calls Tryz.prog 14 #[hv] w (HitsG ys w) := by
  have hl := h.le
  rcases h with ⟨h1, rfl, rfl⟩ | ⟨b, rfl, h2⟩
  · refine (idle_hits h1).mono ?_
    rintro e w' ⟨rfl, rfl⟩
    exact ⟨none, rfl, World.ownsRow_nil _ _ _ _, fun g hg => by simp [Value.ownBlock] at hg, Turn.refl _ _⟩
  · refine (hHits_any b F most ys w h2).mono ?_
    rintro e w' ⟨g, h3, h4, h5, h6⟩
    exact ⟨some ⟨g, 0, none⟩, h3, whole_own h4 (Nat.zero_le _) rfl (by unfold maxLen; omega), fun g' hg' => by simp [Value.ownBlock] at hg'; omega, h6⟩
/-- The document's heap: none, or a list in order. -/
def RG (w : World) (rv : Value) (G : List Nat) (most : Nat) (ys : HL) : Prop := (rv = .pointer none ∧ G = [] ∧ most = 0 ∧ ys = []) ∨
  ∃ b v n, rv = .pointer (some ⟨b, 0, none⟩) ∧ Whole w b 66 #[.int .i64 most, v] ∧ w.ownsRow 0 53 2 v n (flatH ys) ∧ G = b :: v.ownBlock.toList ∧ Up ys ∧ ys.length ≤ most ∧ 0 < most ∧ most ≤ 256
theorem RG.turn {A G : List Nat} {w w' : World} {rv : Value} {most : Nat} {ys : HL} (h : RG w rv G most ys) (k : Turn A w w') (hd : ∀ f ∈ G, f ∉ A) : RG w' rv G most ys := by
  rcases h with h | ⟨b, v, n, h1, h2, h3, rfl, h5⟩
  · exact .inl h
  · exact .inr ⟨b, v, n, h1, h2.turn k (hd b (by simp)), own_turn h3 k (fun g hg => hd g (by simp [hg])), rfl, h5⟩
theorem RG.lt {G : List Nat} {w : World} {rv : Value} {most : Nat} {ys : HL} (h : RG w rv G most ys) : ∀ f ∈ G, f < w.heap.size := by
  rcases h with ⟨_, rfl, _⟩ | ⟨b, v, n, h1, h2, h3, rfl, h5⟩
  · intro f hf; simp at hf
  · intro f hf
    simp only [List.mem_cons, Option.mem_toList] at hf
    rcases hf with rfl | hf
    · exact h2.lt
    · exact (h3.lt f hf).2
set_option maxRecDepth 100000 in
theorem rNew_no (n : Int) (w : World) (hn : n < 1 ∨ 256 < n) : Calls Tryz.prog 5 #[.int .i64 n] w fun e w' => e = .returned (.tuple #[.pointer none, .int .i64 1]) ∧ w' = w := by
  by_cases h : n < 1
  · go_enter Tryz.func5, Tryz.ntmps5
    go_wp2
    go_ret2
    exact ⟨rfl, rfl⟩
  · have h2 : 256 < n := by omega
    go_enter Tryz.func5, Tryz.ntmps5
    go_wp2
    go_ret2
    exact ⟨rfl, rfl⟩
def RNewYes (n : Nat) (w : World) (e : Ending) (w' : World) : Prop := ∃ b G, e = .returned (.tuple #[.pointer (some ⟨b, 0, none⟩), .int .i64 0]) ∧ RG w' (.pointer (some ⟨b, 0, none⟩)) G n [] ∧ (∀ f ∈ G, w.heap.size ≤ f) ∧ Turn [] w w'
set_option maxRecDepth 100000 in
theorem rNew_yes (n : Nat) (w : World) (h1 : 1 ≤ n) (h2 : n ≤ 256) : Calls Tryz.prog 5 #[.int .i64 n] w (RNewYes n w) := by
  have h3 : ¬ (n : Int) < 1 := by omega
  have h4 : ¬ (256 : Int) < (n : Int) := by omega
  have HM : Hid (RG (w.alloc (.cells #[.int .i64 n, .slice none 0 0] 66)) (.pointer (some ⟨w.heap.size, 0, none⟩)) [w.heap.size] n []) := .inr ⟨_, .slice none 0 0, 0, rfl, Whole.new w 66 _, World.ownsRow_nil _ _ _ _, by simp [Value.ownBlock], by unfold Up; simp, Nat.zero_le _, by omega, h2⟩
  go_enter Tryz.func5, Tryz.ntmps5
  go_wp2
  go_ret2
  exact ⟨_, [w.heap.size], rfl, HM.out, fun f hf => by simp at hf; omega, (Turn.refl _ _).alloc _⟩
theorem rLen (rv : Value) (G : List Nat) (most : Nat) (ys : HL) (w : World) (h : RG w rv G most ys) : Calls Tryz.prog 13 #[rv] w fun e w' => e = .returned (.int .i64 (ys.length : Int)) ∧ w' = w := by
  rcases h with ⟨rfl, rfl, rfl, rfl⟩ | ⟨b, v, n, rfl, h2, h3, rfl, h5⟩
  · go_enter Tryz.func13, Tryz.ntmps13
    go_wp2
    go_ret
    exact ⟨rfl, rfl⟩
  · obtain ⟨A, c, rfl, hn, hr⟩ := own_sliceH h3
    have c1 : w.cell? ⟨b, 1, none⟩ = some (.slice A n c) := h2.cell 1
    rw [← hn]
    clear h2 h3 h5 hr hn
    go_enter Tryz.func13, Tryz.ntmps13
    go_wp2
    go_ret
    exact ⟨rfl, rfl⟩
end Go.Proofs.YtaempklgmoabcaaGreat
