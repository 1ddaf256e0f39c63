/- The library's insertion sort at hits, by the shelf's contract; a hit as cells; the order of hits. -/
import Derived.Shelf.SlSortCmp.InsertionK
import Derived.Shelf.SlSortCmp.KitK
import Derived.Test.YtaempklgmoabcaaGreatVr
import Derived.KernelRfl
namespace Go.Proofs.YtaempklgmoabcaaGreat
open Go.Shelf Go.RowKit Go.Lib Go.Sort
set_option linter.unusedVariables false
/-- The shelf's numbers at this program. -/
def insRen : Ren := { f := fun n => if n = 20 then 96 else n, t := fun n => if n = 22 then 30 else if n = 24 then 53 else if n = 25 then 80 else n, g := fun n => n }
theorem insLays : SlLaysF0.n20 Tryz.prog insRen where
  mixed := by kernel_rfl
  f20 := ⟨Tryz.f96.name, by kernel_rfl, Tryz.func96.trans (congrArg some (by kernel_rfl))⟩
  t0 := Tryz.underlying0
  a0 := Tryz.isAgg0
  z0 := Tryz.sizeOf0
  v0 := Tryz.zeroValue0
  t3 := Tryz.underlying3
  a3 := Tryz.isAgg3
  z3 := Tryz.sizeOf3
  v3 := Tryz.zeroValue3
  t4 := Tryz.underlying4
  a4 := Tryz.isAgg4
  z4 := Tryz.sizeOf4
  v4 := Tryz.zeroValue4
  t22 := Tryz.underlying30
  a22 := Tryz.isAgg30
  z22 := Tryz.sizeOf30
  v22 := Tryz.zeroValue30
  t25 := Tryz.underlying80
  a25 := Tryz.isAgg80
  z25 := Tryz.sizeOf80
  v25 := Tryz.zeroValue80
/-- A hit's two cells: its ID, how far it is. -/
def encH (h : Int × Int) : List Value := [.int .u64 h.1, .int .i64 h.2]
theorem encH_len (h : Int × Int) : (encH h).length = 2 := rfl
theorem encH_one (h : Int × Int) : ∀ v ∈ encH h, v.oneCell' = true := fun v hv => by simp [encH] at hv; rcases hv with rfl | rfl <;> rfl
theorem insertion_any (cf : Int × Int → Int × Int → Int) (g : Nat) (cb : Array Value) (blk off cap a b : Nat) (d : Array (Int × Int)) (w : World)
    (eg : ∀ args w, (callFunc g args).run Tryz.prog w = .ok (.enter g args) w) (hcmp : CmpLays Tryz.prog g cb encH 2 cf blk off d.size w) (hH : HoldsK encH 2 w blk off d) (hblk : blk < w.heap.size) (hab : a ≤ b) (hb : b ≤ d.size) (hsz : d.size < 4611686018427387904) :
    Calls Tryz.prog 96 #[.slice (some ⟨blk, off, none⟩) d.size cap, .int .i64 a, .int .i64 b, .func (.func g) #[] cb] w fun e w' =>
      e = .returned (.tuple #[]) ∧ ∃ n os, w' = sortWorldK encH 2 w blk off n (Sort.insertionSort (ltOf cf) d a b) os :=
  AnyQ.insertionSortCmpFunc insLays 2 Tryz.isAgg53 Tryz.sizeOf53 encH encH_len encH_one cf g cb blk off cap a b d w eg hcmp hH hblk hab hb hsz
/-- Is a hit nearer than another one? -/
def ltH (x y : Int × Int) : Bool := decide (x.2 < y.2 ∨ (x.2 = y.2 ∧ x.1 < y.1))
def cfH (x y : Int × Int) : Int := if ltH x y then -1 else if ltH y x then 1 else 0
theorem ltOf_cfH : ltOf cfH = ltH := by
  funext x y
  unfold ltOf cfH
  cases h : ltH x y
  · simp; split <;> omega
  · simp
theorem swoH : SWO ltH where
  irrefl x := by unfold ltH; simp
  trans x y z h1 h2 := by unfold ltH at *; simp at *; omega
  ntrans x y z h1 h2 := by unfold ltH at *; simp at *; omega
theorem sepH (x y : Int × Int) (h1 : ltH x y = false) (h2 : ltH y x = false) : x = y := by
  unfold ltH at *; simp at *; obtain ⟨a, b⟩ := x; obtain ⟨c, d⟩ := y; simp at *; omega
end Go.Proofs.YtaempklgmoabcaaGreat
