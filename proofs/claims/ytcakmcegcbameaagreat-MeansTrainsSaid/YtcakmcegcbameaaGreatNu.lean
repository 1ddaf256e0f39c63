/- The Book of the statements: lists of vectors whose memory lies in ranges that do not meet. -/
import Derived.Test.YtcakmcegcbameaaGreatNk
namespace Go.Proofs.YtcakmcegcbameaaGreat
open Go.RowKit
set_option linter.unusedVariables false
/-- A list of vectors of the call's own, all whose blocks lie from lo up to hi. -/
structure InRange (w : World) (base lo hi : Nat) (A : Option Addr) (c : Nat) (L : List Vc) : Prop where
  row : w.ownsRow base 54 1 (.slice A L.length c) L.length (cellsV L)
  vec : ∀ x ∈ L, ∃ ys, w.ownsRow base 75 1 (.slice x.1 x.2.2.length x.2.1) x.2.2.length ys
  len : ∀ x ∈ L, x.2.2.length ≤ 10000000
  apart : L.Pairwise fun x y => vblk x = none ∨ vblk x ≠ vblk y
  ro : ∀ g, (Value.slice A L.length c).ownBlock = some g → lo ≤ g ∧ g < hi
  rv : ∀ x ∈ L, ∀ g, vblk x = some g → lo ≤ g ∧ g < hi
theorem InRange.kr {w w' : World} {base lo hi : Nat} {A : Option Addr} {c : Nat} {L : List Vc} (h : InRange w base lo hi A c L) (k : KR base w w') : InRange w' base lo hi A c L :=
  ⟨k.row (by decide) (by decide) (by decide) h.row, fun x hx => by obtain ⟨ys, hy⟩ := h.vec x hx; exact ⟨ys, k.row (by decide) (by decide) (by decide) hy⟩, h.len, h.apart, h.ro, h.rv⟩
theorem InRange.below {w w' : World} {base lo hi : Nat} {A : Option Addr} {c : Nat} {L : List Vc} (h : InRange w base lo hi A c L) (k : Below w.heap.size w w') : InRange w' base lo hi A c L :=
  ⟨own_below h.row k, fun x hx => by obtain ⟨ys, hy⟩ := h.vec x hx; exact ⟨ys, own_below hy k⟩, h.len, h.apart, h.ro, h.rv⟩
theorem TwinV.row_own {w : World} {base g r : Nat} {T : List Vc} (h : TwinV w base g r T) (hb : base ≤ g) (hl : T.length + r ≤ 1000000) : w.ownsRow base 54 1 (.slice (some ⟨g, 0, none⟩) T.length (T.length + r)) T.length (cellsV T) :=
  ⟨by rw [cellsV_len, Nat.mul_one], .inr ⟨g, T.length + r, cellsT T r, rfl, hb, h.row, Nat.le_add_right _ _, Nat.le_trans hl (by decide), by rw [cellsT_size, Nat.mul_one], by
    rw [Nat.mul_one]
    unfold cellsT
    dsimp only
    rw [List.take_left' (cellsV_len T)]⟩⟩
theorem TwinV.range {w : World} {base g lo hi : Nat} {T : List Vc} (h : TwinV w base g 2 T) (hb : base ≤ g) (hl : T.length ≤ 20000) (hv : ∀ x ∈ T, x.2.2.length ≤ 20000) (hg : lo ≤ g ∧ g < hi) (ht : ∀ x ∈ T, ∀ b, x.1 = some ⟨b, 0, none⟩ → lo ≤ b ∧ b < hi) : InRange w base lo hi (some ⟨g, 0, none⟩) (T.length + 2) T := by
  have vb : ∀ x ∈ T, ∃ b, x.1 = some ⟨b, 0, none⟩ ∧ vblk x = some b := fun x hx => by
    obtain ⟨_, ⟨b, hb⟩, _⟩ := h.twin x hx
    exact ⟨b, hb, by unfold vblk; rw [hb]; rfl⟩
  refine ⟨h.row_own hb (by omega), fun x hx => ⟨_, (h.twin x hx).own⟩, fun x hx => by have := hv x hx; omega, ?_, fun g' hg' => ?_, fun x hx g' hg' => ?_⟩
  · refine h.apart.imp_of_mem (fun {x y} hx hy hne => .inr fun e => hne ?_)
    obtain ⟨b, h1, h2⟩ := vb x hx
    obtain ⟨b', h3, h4⟩ := vb y hy
    rw [h2, h4] at e
    injection e with e
    rw [h1, h3, e]
  · have : g = g' := by simpa [Value.ownBlock] using hg'
    omega
  · obtain ⟨b, h1, h2⟩ := vb x hx
    rw [h2] at hg'
    injection hg' with hg'
    subst hg'
    exact ht x hx b h1
theorem OwnV.range {w : World} {base lo : Nat} {A : Option Addr} {c : Nat} {L : List Vc} (h : OwnV w lo A c L) (hb : base ≤ lo) (ha : L.Pairwise fun x y => vblk x = none ∨ vblk x ≠ vblk y) (hv : ∀ x ∈ L, x.2.2.length ≤ 10000000) : InRange w base lo w.heap.size A c L :=
  ⟨own_base h.1 hb, fun x hx => ⟨_, own_base (h.2 x hx) hb⟩, hv, ha, fun g hg => h.1.lt g hg, fun x hx g hg => (h.2 x hx).lt g hg⟩
/-- A book under way: its entries lie below hi. -/
def BS (w : World) (bk base n hi : Nat) : Prop := ∃ sv es8 esV, BV w bk base n sv es8 esV ∧ es8.length ≤ n ∧ esV.length ≤ n ∧ (∀ e ∈ es8, ∀ g, e.blk = some g → g < hi) ∧ ∀ e ∈ esV, ∀ g, e.blk = some g → g < hi
def newBook : Obj := .cells #[.int .i64 0, .slice none 0 0, .slice none 0 0, .slice none 0 0, .slice none 0 0, .slice none 0 0, .slice none 0 0, .slice none 0 0, .slice none 0 0, .slice none 0 0, .slice none 0 0, .slice none 0 0, .slice none 0 0] 44
theorem bs_new (w : World) (base hi : Nat) : BS (w.alloc newBook) w.heap.size base 0 hi :=
  ⟨fun _ => .slice none 0 0, [], [], ⟨heap_alloc_new w _, Bk.KIn.nil _ _ _ _ _ _ _, Bk.KIn.nil _ _ _ _ _ _ _, fun _ _ _ => rfl⟩, Nat.le_refl _, Nat.le_refl _, fun e he => by simp at he, fun e he => by simp at he⟩
theorem bs_step {bk base n lo hi : Nat} {A : Option Addr} {c : Nat} {L : List Vc} {w : World} (hB : BS w bk base n lo) (hE : InRange w base lo hi A c L) (hlo : lo ≤ hi) (hb : base ≤ w.heap.size) (hbb : base ≤ bk) (hl : L.length ≤ 20000) (hn : n ≤ 800000) :
    Calls Tryz.prog 13 #[.pointer (some ⟨bk, 0, none⟩), .slice A L.length c] w fun e w' => e = .returned (.tuple #[]) ∧ BS w' bk base (n + L.length + 1) hi ∧ KR base w w' := by
  obtain ⟨sv, es8, esV, h1, h2, h3, h4, h5⟩ := hB
  have ne : ∀ (o : Option Nat) (p : Option Nat), (∀ g, o = some g → g < lo) → (∀ g, p = some g → lo ≤ g ∧ g < hi) → o = none ∨ o ≠ p := fun o p ho hp => by
    cases o with
    | none => exact .inl rfl
    | some g => exact .inr (fun e => by have := ho g rfl; have := hp g e.symm; omega)
  refine (vectors_any bk base n A c L _ rfl sv es8 esV w (by omega) hb hbb h1 ⟨hE.row, hE.vec, hE.len, hE.apart, fun e he x hx => ne _ _ (h4 e he) (hE.rv x hx), fun e he => ne _ _ (h5 e he) hE.ro⟩ hl (by omega) (by omega)).mono ?_
  rintro e w' ⟨rfl, sv', es8', k1, k2, k3, k4⟩
  refine ⟨rfl, ⟨sv', es8', _, k1, by omega, by simp; omega, fun e he g hg => ?_, fun e he g hg => ?_⟩, k2⟩
  · rcases k3 e he with h | ⟨x, hx, h⟩
    · have := h4 e h g hg; omega
    · rw [h] at hg; exact (hE.rv x hx g hg).2
  · rcases List.mem_append.1 he with h | h
    · have := h5 e h g hg; omega
    · rw [List.mem_singleton] at h
      subst h
      exact (hE.ro g hg).2
theorem bs_apart {bk base n hi : Nat} {w : World} (hB : BS w bk base n hi) (hb : base ≤ w.heap.size) : Calls Tryz.prog 14 #[.pointer (some ⟨bk, 0, none⟩)] w fun e w' => e = .returned (.bool true) ∧ Below base w w' := by
  obtain ⟨sv, es8, esV, h, _⟩ := hB
  exact Bk.apart_any hb h.at_ h.k8 h.kv (h.z 1 (by decide) (by decide)) (h.z 2 (by decide) (by decide)) (h.z 4 (by decide) (by decide)) (h.z 5 (by decide) (by decide)) (h.z 7 (by decide) (by decide)) (h.z 8 (by decide) (by decide)) (h.z 9 (by decide) (by decide)) (h.z 10 (by decide) (by decide)) (h.z 11 (by decide) (by decide)) (h.z 12 (by decide) (by decide))
end Go.Proofs.YtcakmcegcbameaaGreat
