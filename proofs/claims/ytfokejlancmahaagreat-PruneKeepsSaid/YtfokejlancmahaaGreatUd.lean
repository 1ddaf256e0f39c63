/- The library's sort and search at spots, laid by the shelf's structures. -/
import Derived.Test.YtfokejlancmahaaGreatUb
import Derived.Test.YtfokejlancmahaaGreatChecked
import Derived.Shelf.SlSortCmp.NoneTotal
import Derived.Shelf.SlicesQ.IndexFunc
import Derived.KernelRfl
namespace Go.Proofs.YtfokejlancmahaaGreat
open Go.Shelf Go.RowKit Go.Lib Go.Sort
set_option linter.unusedVariables false
set_option linter.unusedSimpArgs false
def spotRen : Ren := { f := fun n => if n = 6 then 90 else if n = 14 then 142 else if n = 15 then 143 else if n = 20 then 161 else if n = 21 then 162 else if n = 22 then 163 else if n = 23 then 164 else if n = 24 then 165 else if n = 25 then 166 else if n = 26 then 167 else if n = 27 then 168 else if n = 28 then 169 else if n = 29 then 170 else if n = 46 then 177 else if n = 47 then 178 else if n = 48 then 179 else if n = 49 then 180 else if n = 50 then 181 else if n = 57 then 188 else n, t := fun n => if n = 0 then 0 else if n = 3 then 3 else if n = 4 then 4 else if n = 5 then 5 else if n = 9 then 9 else if n = 22 then 76 else if n = 24 then 81 else if n = 25 then 113 else if n = 39 then 204 else if n = 45 then 215 else if n = 46 then 216 else if n = 50 then 220 else if n = 53 then 223 else if n = 55 then 71 else if n = 66 then 237 else if n = 70 then 241 else if n = 76 then 256 else if n = 77 then 257 else n, g := fun n => n }
set_option maxRecDepth 100000 in
theorem spotLays : SlLaysF0.n6 Tryz.prog spotRen where
  mixed := by kernel_rfl
  f6 := ⟨Tryz.f90.name, by kernel_rfl, Tryz.func90.trans (congrArg some (by kernel_rfl))⟩
  f14 := ⟨Tryz.f142.name, by kernel_rfl, Tryz.func142.trans (congrArg some (by kernel_rfl))⟩
  f15 := Tryz.func143.trans (congrArg some (by kernel_rfl))
  f20 := ⟨Tryz.f161.name, by kernel_rfl, Tryz.func161.trans (congrArg some (by kernel_rfl))⟩
  f21 := ⟨Tryz.f162.name, by kernel_rfl, Tryz.func162.trans (congrArg some (by kernel_rfl))⟩
  f22 := ⟨Tryz.f163.name, by kernel_rfl, Tryz.func163.trans (congrArg some (by kernel_rfl))⟩
  f23 := ⟨Tryz.f164.name, by kernel_rfl, Tryz.func164.trans (congrArg some (by kernel_rfl))⟩
  f24 := ⟨Tryz.f165.name, by kernel_rfl, Tryz.func165.trans (congrArg some (by kernel_rfl))⟩
  f25 := ⟨Tryz.f166.name, by kernel_rfl, Tryz.func166.trans (congrArg some (by kernel_rfl))⟩
  f26 := ⟨Tryz.f167.name, by kernel_rfl, Tryz.func167.trans (congrArg some (by kernel_rfl))⟩
  f27 := ⟨Tryz.f168.name, by kernel_rfl, Tryz.func168.trans (congrArg some (by kernel_rfl))⟩
  f28 := Tryz.func169.trans (congrArg some (by kernel_rfl))
  f29 := Tryz.func170.trans (congrArg some (by kernel_rfl))
  f46 := ⟨Tryz.f177.name, by kernel_rfl, Tryz.func177.trans (congrArg some (by kernel_rfl))⟩
  f47 := Tryz.func178.trans (congrArg some (by kernel_rfl))
  f48 := Tryz.func179.trans (congrArg some (by kernel_rfl))
  f49 := ⟨Tryz.f180.name, by kernel_rfl, Tryz.func180.trans (congrArg some (by kernel_rfl))⟩
  f50 := ⟨Tryz.f181.name, by kernel_rfl, Tryz.func181.trans (congrArg some (by kernel_rfl))⟩
  f57 := ⟨Tryz.f188.name, by kernel_rfl, Tryz.func188.trans (congrArg some (by kernel_rfl))⟩
  t0 := Tryz.underlying0
  a0 := Tryz.isAgg0
  z0 := Tryz.sizeOf0
  v0 := Tryz.zeroValue0
  t3 := Tryz.underlying3
  a3 := Tryz.isAgg3
  z3 := Tryz.sizeOf3
  v3 := Tryz.zeroValue3
  t4 := Tryz.underlying4
  a4 := Tryz.isAgg4
  z4 := Tryz.sizeOf4
  v4 := Tryz.zeroValue4
  t5 := Tryz.underlying5
  a5 := Tryz.isAgg5
  z5 := Tryz.sizeOf5
  v5 := Tryz.zeroValue5
  t9 := Tryz.underlying9
  a9 := Tryz.isAgg9
  z9 := Tryz.sizeOf9
  v9 := Tryz.zeroValue9
  t22 := Tryz.underlying76
  a22 := Tryz.isAgg76
  z22 := Tryz.sizeOf76
  v22 := Tryz.zeroValue76
  t25 := Tryz.underlying113
  a25 := Tryz.isAgg113
  z25 := Tryz.sizeOf113
  v25 := Tryz.zeroValue113
  t39 := Tryz.underlying204
  a39 := Tryz.isAgg204
  z39 := Tryz.sizeOf204
  v39 := Tryz.zeroValue204
  t45 := Tryz.underlying215
  a45 := Tryz.isAgg215
  z45 := Tryz.sizeOf215
  v45 := Tryz.zeroValue215
  t46 := Tryz.underlying216
  a46 := Tryz.isAgg216
  z46 := Tryz.sizeOf216
  v46 := Tryz.zeroValue216
  t50 := Tryz.underlying220
  a50 := Tryz.isAgg220
  z50 := Tryz.sizeOf220
  v50 := Tryz.zeroValue220
  t53 := Tryz.underlying223
  a53 := Tryz.isAgg223
  z53 := Tryz.sizeOf223
  v53 := Tryz.zeroValue223
  t55 := Tryz.underlying71
  a55 := Tryz.isAgg71
  z55 := Tryz.sizeOf71
  v55 := Tryz.zeroValue71
  t66 := Tryz.underlying237
  a66 := Tryz.isAgg237
  z66 := Tryz.sizeOf237
  v66 := Tryz.zeroValue237
  t70 := Tryz.underlying241
  a70 := Tryz.isAgg241
  z70 := Tryz.sizeOf241
  v70 := Tryz.zeroValue241
  t76 := Tryz.underlying256
  a76 := Tryz.isAgg256
  z76 := Tryz.sizeOf256
  v76 := Tryz.zeroValue256
  t77 := Tryz.underlying257
  a77 := Tryz.isAgg257
  z77 := Tryz.sizeOf257
  v77 := Tryz.zeroValue257
def findRen : Ren := { f := fun n => if n = 6 then 92 else n, t := fun n => if n = 0 then 0 else if n = 3 then 3 else if n = 4 then 4 else if n = 22 then 76 else if n = 23 then 81 else if n = 25 then 83 else n, g := fun n => n }
set_option maxRecDepth 100000 in
theorem findLays : SlLaysH0.n6 Tryz.prog findRen where
  mixed := by kernel_rfl
  f6 := ⟨Tryz.f92.name, by kernel_rfl, Tryz.func92.trans (congrArg some (by kernel_rfl))⟩
  t0 := Tryz.underlying0
  a0 := Tryz.isAgg0
  z0 := Tryz.sizeOf0
  v0 := Tryz.zeroValue0
  t3 := Tryz.underlying3
  a3 := Tryz.isAgg3
  z3 := Tryz.sizeOf3
  v3 := Tryz.zeroValue3
  t4 := Tryz.underlying4
  a4 := Tryz.isAgg4
  z4 := Tryz.sizeOf4
  v4 := Tryz.zeroValue4
  t22 := Tryz.underlying76
  a22 := Tryz.isAgg76
  z22 := Tryz.sizeOf76
  v22 := Tryz.zeroValue76
  t25 := Tryz.underlying83
  a25 := Tryz.isAgg83
  z25 := Tryz.sizeOf83
  v25 := Tryz.zeroValue83
/-- A place that is one of so many, whatever it is. -/
def clQ (n p : Nat) : Nat := if p < n then p else 0
theorem clQ_id {n p : Nat} (h : p < n) : clQ n p = p := if_pos h
theorem clQ_lt {n p : Nat} (h : 0 < n) : clQ n p < n := by unfold clQ; split <;> omega
/-- A spot's key: its ID, how far it is. -/
def kQ (G : List Pn) (a p : Nat) : Int × Int := ((nAt G (clQ G.length p)).1, fI G (clQ G.length p) a)
/-- A spot's cells. -/
def encS (G : List Pn) (a p : Nat) : List Value := [.int .i64 (clQ G.length p : Nat), .int .u64 (kQ G a p).1, .int .i64 (kQ G a p).2]
theorem encS_len (G : List Pn) (a p : Nat) : (encS G a p).length = 3 := rfl
theorem encS_one (G : List Pn) (a p : Nat) : ∀ v ∈ encS G a p, v.oneCell' = true := by
  intro v hv
  simp [encS] at hv
  rcases hv with rfl | rfl | rfl <;> rfl
def ltP (G : List Pn) (a i j : Nat) : Bool := ltQ (kQ G a i) (kQ G a j)
def cfP (G : List Pn) (a i j : Nat) : Int := cfQ (kQ G a i) (kQ G a j)
theorem ltOf_cfP (G : List Pn) (a : Nat) : ltOf (cfP G a) = ltP G a := by
  funext x y
  unfold ltOf cfP cfQ ltP
  cases h : ltQ (kQ G a x) (kQ G a y)
  · simp; split <;> omega
  · simp
theorem ltQ_irr (x : Int × Int) : ltQ x x = false := by unfold ltQ; simp
theorem ltQ_tr {x y z : Int × Int} (h1 : ltQ x y = true) (h2 : ltQ y z = true) : ltQ x z = true := by unfold ltQ at *; simp at *; omega
theorem ltQ_ntr {x y z : Int × Int} (h1 : ltQ x y = false) (h2 : ltQ y z = false) : ltQ x z = false := by unfold ltQ at *; simp at *; omega
theorem swoP (G : List Pn) (a : Nat) : SWO (ltOf (cfP G a)) := by
  rw [ltOf_cfP]
  exact ⟨fun x => ltQ_irr _, fun x y z h1 h2 => ltQ_tr h1 h2, fun x y z h1 h2 => ltQ_ntr h1 h2⟩
/-- The places of a graph whose IDs are unlike are in an order. -/
theorem ordP {G : List Pn} {d : Nat} (hP : PG G d) (a : Nat) : OrdN (ltP G a) G.length where
  irr i := ltQ_irr _
  tr i j k h1 h2 := ltQ_tr h1 h2
  tot i j hi hj hne := by
    have hid : (nAt G i).1 ≠ (nAt G j).1 := fun e => hne (hP.inj i j hi hj e)
    unfold ltP ltQ kQ
    rw [clQ_id hi, clQ_id hj]
    simp only [decide_eq_true_eq]
    omega
theorem cmpLaysP (G : List Pn) (a blk off size : Nat) (w : World) : CmpLays Tryz.prog 91 #[] (encS G a) 3 (cfP G a) blk off size w := fun _ _ _ _ x y => order_any _ _ _ _ _ _ _
/-- The library's sort of a row of spots. -/
theorem sortS_any (G : List Pn) (a blk off cap : Nat) (d : Array Nat) (w : World) (hH : HoldsK (encS G a) 3 w blk off d) (hblk : blk < w.heap.size) (hsz : d.size < 4611686018427387904) :
    Calls Tryz.prog 90 #[.slice (some ⟨blk, off, none⟩) d.size cap, .func (.func 91) #[] #[]] w fun e w' =>
      e = .returned (.tuple #[]) ∧ ∃ d' n os, PermIn 0 d.size d d' ∧ SortedIn (ltP G a) 0 d.size d' ∧ w' = sortWorldK (encS G a) 3 w blk off n d' os := by
  have h := AnyQ.slices_SortFunc spotLays 3 Tryz.isAgg81 Tryz.sizeOf81 (encS G a) (encS_len G a) (encS_one G a) (cfP G a) (swoP G a) 91 #[] blk off cap d w Tryz.call91 (cmpLaysP G a blk off d.size w) hH hblk hsz
  rw [ltOf_cfP] at h
  exact h
theorem sortN_any (p : Option Addr) (cap : Nat) (fv : Value) (w : World) :
    Calls Tryz.prog 90 #[.slice p 0 cap, fv] w fun e w' => e = .returned (.tuple #[]) ∧ w' = w :=
  AnyF.slices_SortFunc_none spotLays p cap fv w
theorem findS_any (G : List Pn) (a : Nat) (p : Nat → Bool) (g : Nat) (lb : Array Value) (eg : ∀ args w, (callFunc g args).run Tryz.prog w = .ok (.enter g args) w) (b off n c : Nat) (zs : List Nat) (w : World)
    (hp : PredBelow Tryz.prog g lb (fun x => .agg (encS G a x).toArray) p w) (hz : n ≤ zs.length) (hbig : n ≤ 9223372036854775807) (hb : b < w.heap.size)
    (hc : ∀ j, j < zs.length → ∀ i v, (encS G a zs[j]!)[i]? = some v → w.cell? ⟨b, off + j * 3 + i, none⟩ = some v) :
    Calls Tryz.prog 92 #[.slice (some ⟨b, off, none⟩) n c, .func (.func g) #[] lb] w fun e w' => e = .returned (.int .i64 (Lib.idxBy (fun _ y => p y) (zs.take n) default)) ∧ Below w.heap.size w w' :=
  AnyQ.slices_IndexFunc findLays 3 Tryz.isAgg81 Tryz.sizeOf81 (encS G a) (encS_len G a) p g lb eg b off n c zs w hp hz hbig hb hc
end Go.Proofs.YtfokejlancmahaaGreat
