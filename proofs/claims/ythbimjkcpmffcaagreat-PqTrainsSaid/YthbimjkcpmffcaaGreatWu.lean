/- What is handed in, as the walks of layer 8's laws want it. -/
import Derived.Test.YthbimjkcpmffcaaGreatPk
import Derived.Test.YthbimjkcpmffcaaGreatAp
namespace Go.Proofs.YthbimjkcpmffcaaGreat
open Go.RowKit
set_option linter.unusedVariables false
theorem TsOk.given {W : World} {a : Option Addr} {c : Nat} {L : List Vc} (h : TsOk W a c L) : GivenT W a L := by
  obtain ⟨h1, h2, h3, h4, h5⟩ := h
  refine ⟨h1, by omega, fun v hv => ?_, fun x hx => ?_⟩
  · unfold vecs at hv
    obtain ⟨x, hx, rfl⟩ := List.mem_map.1 hv
    have := h2 x hx
    have h6 := this.2.2.1
    have h7 := this.2.2.2.1
    omega
  · have := h2 x hx
    exact ⟨this.2.2.1, by have := this.2.2.2.1; omega⟩
theorem u8_of_wf8 {n : Int} (h : (Lit.int .u8 n).wf = true) : 0 ≤ n ∧ n ≤ 255 := by
  have h1 : IntKind.u8.min = 0 := rfl
  have h2 : IntKind.u8.max = 255 := rfl
  simp only [Lit.wf, Bool.and_eq_true, decide_eq_true_eq] at h
  omega
theorem i64_of_wf8 {n : Int} (h : (Lit.int .i64 n).wf = true) : -9223372036854775808 ≤ n ∧ n ≤ 9223372036854775807 := by
  have h1 : IntKind.i64.min = -9223372036854775808 := rfl
  have h2 : IntKind.i64.max = 9223372036854775807 := rfl
  simp only [Lit.wf, Bool.and_eq_true, decide_eq_true_eq] at h
  omega
theorem u64_of_wf8 {n : Int} (h : (Lit.int .u64 n).wf = true) : 0 ≤ n ∧ n < 18446744073709551616 := by
  have h1 : IntKind.u64.min = 0 := rfl
  have h2 : IntKind.u64.max = 18446744073709551615 := rfl
  simp only [Lit.wf, Bool.and_eq_true, decide_eq_true_eq] at h
  omega
theorem givenC_of {w : World} {B : Option Addr} {d : Nat} {v : List Int} (h : Rd .u8 w w.heap.size B v) (wf : ∀ n ∈ v, (Lit.int .u8 n).wf = true) (hl : v.length ≤ d) (hm : d ≤ 140737488351232) : GivenC w B d v := ⟨h, by omega, ⟨hl, by omega⟩, fun x hx => u8_of_wf8 (wf x hx)⟩
theorem givenV_of {w : World} {B : Option Addr} {d : Nat} {v : List Int} (h : Rd .i8 w w.heap.size B v) (wf : ∀ n ∈ v, (Lit.int .i8 n).wf = true) (hl : v.length ≤ d) (hm : d ≤ 140737488351232) : GivenV w B d v := ⟨h, by omega, ⟨hl, by omega⟩, i8_wf2 wf⟩
end Go.Proofs.YthbimjkcpmffcaaGreat
