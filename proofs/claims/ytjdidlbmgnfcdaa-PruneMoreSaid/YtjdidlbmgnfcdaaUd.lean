/- The library's sort and search at spots, laid by the shelf's structures. -/
import Derived.Test.YtjdidlbmgnfcdaaUb
import Derived.Test.YtjdidlbmgnfcdaaChecked
import Derived.Shelf.SlSortCmp.NoneTotal
import Derived.Shelf.SlicesQ.IndexFunc
import Derived.KernelRfl
namespace Go.Proofs.Ytjdidlbmgnfcdaa
open Go.Shelf Go.RowKit Go.Lib Go.Sort
set_option linter.unusedVariables false
set_option linter.unusedSimpArgs false
def spotRen : Ren := { f := fun n => if n = 6 then 57 else if n = 14 then 69 else if n = 15 then 70 else if n = 20 then 73 else if n = 21 then 74 else if n = 22 then 75 else if n = 23 then 76 else if n = 24 then 77 else if n = 25 then 78 else if n = 26 then 79 else if n = 27 then 80 else if n = 28 then 81 else if n = 29 then 82 else if n = 46 then 86 else if n = 47 then 87 else if n = 48 then 88 else if n = 49 then 89 else if n = 50 then 90 else if n = 57 then 91 else n, t := fun n => if n = 0 then 0 else if n = 3 then 3 else if n = 4 then 4 else if n = 5 then 5 else if n = 9 then 9 else if n = 22 then 74 else if n = 24 then 77 else if n = 25 then 91 else if n = 39 then 101 else if n = 45 then 108 else if n = 46 then 109 else if n = 50 then 113 else if n = 53 then 116 else if n = 55 then 34 else if n = 66 then 123 else if n = 70 then 127 else if n = 76 then 129 else if n = 77 then 130 else n, g := fun n => n }
set_option maxRecDepth 100000 in
theorem spotLays : SlLaysF0.n6 Try.prog spotRen where
  mixed := by kernel_rfl
  f6 := ⟨Try.f57.name, by kernel_rfl, Try.func57.trans (congrArg some (by kernel_rfl))⟩
  f14 := ⟨Try.f69.name, by kernel_rfl, Try.func69.trans (congrArg some (by kernel_rfl))⟩
  f15 := Try.func70.trans (congrArg some (by kernel_rfl))
  f20 := ⟨Try.f73.name, by kernel_rfl, Try.func73.trans (congrArg some (by kernel_rfl))⟩
  f21 := ⟨Try.f74.name, by kernel_rfl, Try.func74.trans (congrArg some (by kernel_rfl))⟩
  f22 := ⟨Try.f75.name, by kernel_rfl, Try.func75.trans (congrArg some (by kernel_rfl))⟩
  f23 := ⟨Try.f76.name, by kernel_rfl, Try.func76.trans (congrArg some (by kernel_rfl))⟩
  f24 := ⟨Try.f77.name, by kernel_rfl, Try.func77.trans (congrArg some (by kernel_rfl))⟩
  f25 := ⟨Try.f78.name, by kernel_rfl, Try.func78.trans (congrArg some (by kernel_rfl))⟩
  f26 := ⟨Try.f79.name, by kernel_rfl, Try.func79.trans (congrArg some (by kernel_rfl))⟩
  f27 := ⟨Try.f80.name, by kernel_rfl, Try.func80.trans (congrArg some (by kernel_rfl))⟩
  f28 := Try.func81.trans (congrArg some (by kernel_rfl))
  f29 := Try.func82.trans (congrArg some (by kernel_rfl))
  f46 := ⟨Try.f86.name, by kernel_rfl, Try.func86.trans (congrArg some (by kernel_rfl))⟩
  f47 := Try.func87.trans (congrArg some (by kernel_rfl))
  f48 := Try.func88.trans (congrArg some (by kernel_rfl))
  f49 := ⟨Try.f89.name, by kernel_rfl, Try.func89.trans (congrArg some (by kernel_rfl))⟩
  f50 := ⟨Try.f90.name, by kernel_rfl, Try.func90.trans (congrArg some (by kernel_rfl))⟩
  f57 := ⟨Try.f91.name, by kernel_rfl, Try.func91.trans (congrArg some (by kernel_rfl))⟩
  t0 := Try.underlying0
  a0 := Try.isAgg0
  z0 := Try.sizeOf0
  v0 := Try.zeroValue0
  t3 := Try.underlying3
  a3 := Try.isAgg3
  z3 := Try.sizeOf3
  v3 := Try.zeroValue3
  t4 := Try.underlying4
  a4 := Try.isAgg4
  z4 := Try.sizeOf4
  v4 := Try.zeroValue4
  t5 := Try.underlying5
  a5 := Try.isAgg5
  z5 := Try.sizeOf5
  v5 := Try.zeroValue5
  t9 := Try.underlying9
  a9 := Try.isAgg9
  z9 := Try.sizeOf9
  v9 := Try.zeroValue9
  t22 := Try.underlying74
  a22 := Try.isAgg74
  z22 := Try.sizeOf74
  v22 := Try.zeroValue74
  t25 := Try.underlying91
  a25 := Try.isAgg91
  z25 := Try.sizeOf91
  v25 := Try.zeroValue91
  t39 := Try.underlying101
  a39 := Try.isAgg101
  z39 := Try.sizeOf101
  v39 := Try.zeroValue101
  t45 := Try.underlying108
  a45 := Try.isAgg108
  z45 := Try.sizeOf108
  v45 := Try.zeroValue108
  t46 := Try.underlying109
  a46 := Try.isAgg109
  z46 := Try.sizeOf109
  v46 := Try.zeroValue109
  t50 := Try.underlying113
  a50 := Try.isAgg113
  z50 := Try.sizeOf113
  v50 := Try.zeroValue113
  t53 := Try.underlying116
  a53 := Try.isAgg116
  z53 := Try.sizeOf116
  v53 := Try.zeroValue116
  t55 := Try.underlying34
  a55 := Try.isAgg34
  z55 := Try.sizeOf34
  v55 := Try.zeroValue34
  t66 := Try.underlying123
  a66 := Try.isAgg123
  z66 := Try.sizeOf123
  v66 := Try.zeroValue123
  t70 := Try.underlying127
  a70 := Try.isAgg127
  z70 := Try.sizeOf127
  v70 := Try.zeroValue127
  t76 := Try.underlying129
  a76 := Try.isAgg129
  z76 := Try.sizeOf129
  v76 := Try.zeroValue129
  t77 := Try.underlying130
  a77 := Try.isAgg130
  z77 := Try.sizeOf130
  v77 := Try.zeroValue130
def findRen : Ren := { f := fun n => if n = 6 then 59 else n, t := fun n => if n = 0 then 0 else if n = 3 then 3 else if n = 4 then 4 else if n = 22 then 74 else if n = 23 then 77 else if n = 25 then 79 else n, g := fun n => n }
set_option maxRecDepth 100000 in
theorem findLays : SlLaysH0.n6 Try.prog findRen where
  mixed := by kernel_rfl
  f6 := ⟨Try.f59.name, by kernel_rfl, Try.func59.trans (congrArg some (by kernel_rfl))⟩
  t0 := Try.underlying0
  a0 := Try.isAgg0
  z0 := Try.sizeOf0
  v0 := Try.zeroValue0
  t3 := Try.underlying3
  a3 := Try.isAgg3
  z3 := Try.sizeOf3
  v3 := Try.zeroValue3
  t4 := Try.underlying4
  a4 := Try.isAgg4
  z4 := Try.sizeOf4
  v4 := Try.zeroValue4
  t22 := Try.underlying74
  a22 := Try.isAgg74
  z22 := Try.sizeOf74
  v22 := Try.zeroValue74
  t25 := Try.underlying79
  a25 := Try.isAgg79
  z25 := Try.sizeOf79
  v25 := Try.zeroValue79
/-- A place that is one of so many, whatever it is. -/
def clQ (n p : Nat) : Nat := if p < n then p else 0
theorem clQ_id {n p : Nat} (h : p < n) : clQ n p = p := if_pos h
theorem clQ_lt {n p : Nat} (h : 0 < n) : clQ n p < n := by unfold clQ; split <;> omega
/-- A spot's key: its ID, how far it is. -/
def kQ (G : List Pn) (a p : Nat) : Int × Int := ((nAt G (clQ G.length p)).1, fI G (clQ G.length p) a)
/-- A spot's cells. -/
def encS (G : List Pn) (a p : Nat) : List Value := [.int .i64 (clQ G.length p : Nat), .int .u64 (kQ G a p).1, .int .i64 (kQ G a p).2]
theorem encS_len (G : List Pn) (a p : Nat) : (encS G a p).length = 3 := rfl
theorem encS_one (G : List Pn) (a p : Nat) : ∀ v ∈ encS G a p, v.oneCell' = true := by
  intro v hv
  simp [encS] at hv
  rcases hv with rfl | rfl | rfl <;> rfl
def ltP (G : List Pn) (a i j : Nat) : Bool := ltQ (kQ G a i) (kQ G a j)
def cfP (G : List Pn) (a i j : Nat) : Int := cfQ (kQ G a i) (kQ G a j)
theorem ltOf_cfP (G : List Pn) (a : Nat) : ltOf (cfP G a) = ltP G a := by
  funext x y
  unfold ltOf cfP cfQ ltP
  cases h : ltQ (kQ G a x) (kQ G a y)
  · simp; split <;> omega
  · simp
theorem ltQ_irr (x : Int × Int) : ltQ x x = false := by unfold ltQ; simp
theorem ltQ_tr {x y z : Int × Int} (h1 : ltQ x y = true) (h2 : ltQ y z = true) : ltQ x z = true := by unfold ltQ at *; simp at *; omega
theorem ltQ_ntr {x y z : Int × Int} (h1 : ltQ x y = false) (h2 : ltQ y z = false) : ltQ x z = false := by unfold ltQ at *; simp at *; omega
theorem swoP (G : List Pn) (a : Nat) : SWO (ltOf (cfP G a)) := by
  rw [ltOf_cfP]
  exact ⟨fun x => ltQ_irr _, fun x y z h1 h2 => ltQ_tr h1 h2, fun x y z h1 h2 => ltQ_ntr h1 h2⟩
/-- The places of a graph whose IDs are unlike are in an order. -/
theorem ordP {G : List Pn} {d : Nat} (hP : PG G d) (a : Nat) : OrdN (ltP G a) G.length where
  irr i := ltQ_irr _
  tr i j k h1 h2 := ltQ_tr h1 h2
  tot i j hi hj hne := by
    have hid : (nAt G i).1 ≠ (nAt G j).1 := fun e => hne (hP.inj i j hi hj e)
    unfold ltP ltQ kQ
    rw [clQ_id hi, clQ_id hj]
    simp only [decide_eq_true_eq]
    omega
theorem cmpLaysP (G : List Pn) (a blk off size : Nat) (w : World) : CmpLays Try.prog 58 #[] (encS G a) 3 (cfP G a) blk off size w := fun _ _ _ _ x y => order_any _ _ _ _ _ _ _
/-- The library's sort of a row of spots. -/
theorem sortS_any (G : List Pn) (a blk off cap : Nat) (d : Array Nat) (w : World) (hH : HoldsK (encS G a) 3 w blk off d) (hblk : blk < w.heap.size) (hsz : d.size < 4611686018427387904) :
    Calls Try.prog 57 #[.slice (some ⟨blk, off, none⟩) d.size cap, .func (.func 58) #[] #[]] w fun e w' =>
      e = .returned (.tuple #[]) ∧ ∃ d' n os, PermIn 0 d.size d d' ∧ SortedIn (ltP G a) 0 d.size d' ∧ w' = sortWorldK (encS G a) 3 w blk off n d' os := by
  have h := AnyQ.slices_SortFunc spotLays 3 Try.isAgg77 Try.sizeOf77 (encS G a) (encS_len G a) (encS_one G a) (cfP G a) (swoP G a) 58 #[] blk off cap d w Try.call58 (cmpLaysP G a blk off d.size w) hH hblk hsz
  rw [ltOf_cfP] at h
  exact h
theorem sortN_any (p : Option Addr) (cap : Nat) (fv : Value) (w : World) :
    Calls Try.prog 57 #[.slice p 0 cap, fv] w fun e w' => e = .returned (.tuple #[]) ∧ w' = w :=
  AnyF.slices_SortFunc_none spotLays p cap fv w
theorem findS_any (G : List Pn) (a : Nat) (p : Nat → Bool) (g : Nat) (lb : Array Value) (eg : ∀ args w, (callFunc g args).run Try.prog w = .ok (.enter g args) w) (b off n c : Nat) (zs : List Nat) (w : World)
    (hp : PredBelow Try.prog g lb (fun x => .agg (encS G a x).toArray) p w) (hz : n ≤ zs.length) (hbig : n ≤ 9223372036854775807) (hb : b < w.heap.size)
    (hc : ∀ j, j < zs.length → ∀ i v, (encS G a zs[j]!)[i]? = some v → w.cell? ⟨b, off + j * 3 + i, none⟩ = some v) :
    Calls Try.prog 59 #[.slice (some ⟨b, off, none⟩) n c, .func (.func g) #[] lb] w fun e w' => e = .returned (.int .i64 (Lib.idxBy (fun _ y => p y) (zs.take n) default)) ∧ Below w.heap.size w w' :=
  AnyQ.slices_IndexFunc findLays 3 Try.isAgg77 Try.sizeOf77 (encS G a) (encS_len G a) p g lb eg b off n c zs w hp hz hbig hb hc
end Go.Proofs.Ytjdidlbmgnfcdaa
