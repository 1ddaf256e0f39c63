/- Words for the laws of layer 11. -/
import Derived.Test.YtkmngbkghgelfaaFn
import Derived.Test.YtkmngbkghgelfaaBy
namespace Go.Proofs.Ytkmngbkghgelfaa
open Go.Shelf Go.RowKit Go.Lib
open Go.Sort hiding Below
set_option linter.unusedVariables false
def SomeB (e : Ending) : Prop := ∃ b, e = .returned (.bool b)
theorem beyond_oneS (n : Nat) (hn : n ≤ 140737488355328) (w : World) : Calls Try.prog 6 #[.slice (some ⟨w.heap.size, 0, none⟩) 1 1] (w.alloc (.cells #[.int .i64 (n : Int)] 3)) fun e w' => SomeB e ∧ w' = w.alloc (.cells #[.int .i64 (n : Int)] 3) := by
  have hx : Rd .i64 (w.alloc (.cells #[.int .i64 (n : Int)] 3)) (w.heap.size + 1) (some ⟨w.heap.size, 0, none⟩) [(n : Int)] := fun _ => ⟨w.heap.size, 0, rfl, Nat.lt_succ_self _, fun i hi => by
    obtain rfl : i = 0 := by simp at hi; exact hi
    exact (Whole.new w 3 _).cell 0⟩
  refine (beyond_any (some ⟨w.heap.size, 0, none⟩) 1 [(n : Int)] 1 rfl _ _ hx (fun x hx => by rw [List.mem_singleton] at hx; omega) (by simp)).mono ?_
  rintro e w' ⟨rfl, rfl⟩
  exact ⟨⟨_, rfl⟩, rfl⟩
theorem errG_cases (b : Bool) : errG b = if b then 0 else 1 := rfl
/-- A list that one owns reads so at any later world. -/
theorem own_at {w W : World} {base n c : Nat} {e : TypeId} {A : Option Addr} {xs : HL} (h : w.ownsRow base e 2 (.slice A n c) n (flatH xs)) (hb : Below w.heap.size w W) : RdH W W.heap.size A xs := own_rdHS (own_below h hb)
theorem hit_ok {G : List Pn} {s : Int} {v : List Int} (hM : MaySearch G s v) (hok : ∀ x ∈ G, PnOk x) (bv : ∀ n ∈ v, -128 ≤ n ∧ n ≤ 127) {p : Nat} (hp : p < G.length) : HitOk (hitP G v p) :=
  have hm := nAt_mem hp
  ⟨u64_wf (hok _ hm).1, i64_wfS (far_bdS (by rw [hM.same _ hm]; exact hM.dim.2) (hok _ hm).2.1 bv)⟩
theorem rdH_one (w : World) (x y : Int) : RdH (w.alloc (.cells #[.int .u64 x, .int .i64 y] 46)) (w.alloc (.cells #[.int .u64 x, .int .i64 y] 46)).heap.size (some ⟨w.heap.size, 0, none⟩) [(x, y)] := rdH_whole (Whole.new w _ (flatH [(x, y)]).toArray)
theorem exact_all {G : List Pn} {s : Int} {v : List Int} {k : Nat} (hM : mayS G s v = true) (h1 : 1 ≤ k) (h2 : k ≤ 256) : exactH G s v (k : Int) = (srt (hlP G v (List.range G.length))).take k ∧ exactB G s v (k : Int) = true := by
  have hB : exactB G s v (k : Int) = true := by
    rw [exactB_eq, hM]
    exact decide_eq_true ⟨by omega, by omega⟩
  exact ⟨by unfold exactH; rw [hB]; rfl, hB⟩
theorem exact_not {G : List Pn} {s : Int} {v : List Int} {k : Int} (hM : mayS G s v = false) : exactH G s v k = [] ∧ exactB G s v k = false := by
  have hB : exactB G s v k = false := by rw [exactB_eq, hM]; rfl
  exact ⟨by unfold exactH; rw [hB]; rfl, hB⟩
end Go.Proofs.Ytkmngbkghgelfaa
