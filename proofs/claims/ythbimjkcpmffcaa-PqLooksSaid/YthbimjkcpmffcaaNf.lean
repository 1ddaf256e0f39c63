/- The walks of the document's means: may, nearest (layer 7). -/
import Derived.Test.YthbimjkcpmffcaaNc
namespace Go.Proofs.Ythbimjkcpmffcaa
open Go.RowKit
set_option linter.unusedVariables false
theorem RdV.drewN {w : World} {B : Nat} {A : Option Addr} {L : List Vc} (h : RdV w B A L) (n : Nat) : RdV (w.drewN n) B A L := h.below (below_drewN (Below.refl B w) n)
theorem Rd.drewN {k : IntKind} {w : World} {B : Nat} {A : Option Addr} {xs : List Int} (h : Rd k w B A xs) (n : Nat) : Rd k (w.drewN n) B A xs := h.below (below_drewN (Below.refl B w) n)
end Go.Proofs.Ythbimjkcpmffcaa
