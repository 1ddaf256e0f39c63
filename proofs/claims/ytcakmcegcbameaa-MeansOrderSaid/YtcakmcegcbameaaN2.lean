/- What is asked of layer 7's Cost, Step and Train of the program. -/
import Derived.Test.YtcakmcegcbameaaNq
namespace Go.Proofs.Ytcakmcegcbameaa
open Go.RowKit
set_option linter.unusedVariables false
def CostSpec : Prop := ∀ (A : Option Addr) (c : Nat) (L : List Vc) (B : Option Addr) (d : Nat) (M : List Vc) (w : World), VArg w A L → VArg w B M →
  Calls Try.prog 18 #[.slice A L.length c, .slice B M.length d] w fun e w' => e = .returned (.tuple #[.int .i64 (costA (vecs L) (vecs M)), .int .i64 (errE (mayM (vecs L) (vecs M)))]) ∧ Below w.heap.size w w'
def StepSpec : Prop := ∀ (A : Option Addr) (c : Nat) (L : List Vc) (B : Option Addr) (d : Nat) (M : List Vc) (w : World), VArg w A L → VArg w B M →
  Calls Try.prog 19 #[.slice A L.length c, .slice B M.length d] w (VAns w (stepA (vecs L) (vecs M)) (errE (mayM (vecs L) (vecs M))))
def TrainSpec : Prop := ∀ (A : Option Addr) (c : Nat) (L : List Vc) (k r : Int) (s : Nat) (w : World), VArg w A L → s < 18446744073709551616 →
  Calls Try.prog 23 #[.slice A L.length c, .int .i64 k, .int .i64 r, .int .u64 s] w (VAns w (trainA (vecs L) k r s) (errE (mayTB (vecs L) k r)))
end Go.Proofs.Ytcakmcegcbameaa
