/- The library's insertion sort at hits, by the shelf's contract; a hit as cells; the order of hits. -/
import Derived.Shelf.SlSortCmp.InsertionK
import Derived.Shelf.SlSortCmp.KitK
import Derived.Test.YtkmngbkghgelfaaVr
import Derived.KernelRfl
namespace Go.Proofs.Ytkmngbkghgelfaa
open Go.Shelf Go.RowKit Go.Lib Go.Sort
set_option linter.unusedVariables false
/-- The shelf's numbers at this program. -/
def insRen : Ren := { f := fun n => if n = 20 then 62 else n, t := fun n => if n = 22 then 33 else if n = 24 then 46 else if n = 25 then 99 else n, g := fun n => n }
theorem insLays : SlLaysF0.n20 Try.prog insRen where
  mixed := by kernel_rfl
  f20 := ⟨Try.f62.name, by kernel_rfl, Try.func62.trans (congrArg some (by kernel_rfl))⟩
  t0 := Try.underlying0
  a0 := Try.isAgg0
  z0 := Try.sizeOf0
  v0 := Try.zeroValue0
  t3 := Try.underlying3
  a3 := Try.isAgg3
  z3 := Try.sizeOf3
  v3 := Try.zeroValue3
  t4 := Try.underlying4
  a4 := Try.isAgg4
  z4 := Try.sizeOf4
  v4 := Try.zeroValue4
  t22 := Try.underlying33
  a22 := Try.isAgg33
  z22 := Try.sizeOf33
  v22 := Try.zeroValue33
  t25 := Try.underlying99
  a25 := Try.isAgg99
  z25 := Try.sizeOf99
  v25 := Try.zeroValue99
/-- A hit's two cells: its ID, how far it is. -/
def encH (h : Int × Int) : List Value := [.int .u64 h.1, .int .i64 h.2]
theorem encH_len (h : Int × Int) : (encH h).length = 2 := rfl
theorem encH_one (h : Int × Int) : ∀ v ∈ encH h, v.oneCell' = true := fun v hv => by simp [encH] at hv; rcases hv with rfl | rfl <;> rfl
theorem insertion_any (cf : Int × Int → Int × Int → Int) (g : Nat) (cb : Array Value) (blk off cap a b : Nat) (d : Array (Int × Int)) (w : World)
    (eg : ∀ args w, (callFunc g args).run Try.prog w = .ok (.enter g args) w) (hcmp : CmpLays Try.prog g cb encH 2 cf blk off d.size w) (hH : HoldsK encH 2 w blk off d) (hblk : blk < w.heap.size) (hab : a ≤ b) (hb : b ≤ d.size) (hsz : d.size < 4611686018427387904) :
    Calls Try.prog 62 #[.slice (some ⟨blk, off, none⟩) d.size cap, .int .i64 a, .int .i64 b, .func (.func g) #[] cb] w fun e w' =>
      e = .returned (.tuple #[]) ∧ ∃ n os, w' = sortWorldK encH 2 w blk off n (Sort.insertionSort (ltOf cf) d a b) os :=
  AnyQ.insertionSortCmpFunc insLays 2 Try.isAgg46 Try.sizeOf46 encH encH_len encH_one cf g cb blk off cap a b d w eg hcmp hH hblk hab hb hsz
/-- Is a hit nearer than another one? -/
def ltH (x y : Int × Int) : Bool := decide (x.2 < y.2 ∨ (x.2 = y.2 ∧ x.1 < y.1))
def cfH (x y : Int × Int) : Int := if ltH x y then -1 else if ltH y x then 1 else 0
theorem ltOf_cfH : ltOf cfH = ltH := by
  funext x y
  unfold ltOf cfH
  cases h : ltH x y
  · simp; split <;> omega
  · simp
theorem swoH : SWO ltH where
  irrefl x := by unfold ltH; simp
  trans x y z h1 h2 := by unfold ltH at *; simp at *; omega
  ntrans x y z h1 h2 := by unfold ltH at *; simp at *; omega
theorem sepH (x y : Int × Int) (h1 : ltH x y = false) (h2 : ltH y x = false) : x = y := by
  unfold ltH at *; simp at *; obtain ⟨a, b⟩ := x; obtain ⟨c, d⟩ := y; simp at *; omega
end Go.Proofs.Ytkmngbkghgelfaa
