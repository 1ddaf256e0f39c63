/- A book of numbers, nodes and graphs under way: its entries lie below a bound. -/
import Derived.Test.YtfokejlancmahaaGreatKp
namespace Go.Proofs.YtfokejlancmahaaGreat
open Go.RowKit
set_option linter.unusedVariables false
/-- A book under way: its entries lie below hi. -/
def BTg (w : World) (bk base n hi : Nat) : Prop := ∃ es, BG w bk base n es ∧ (∀ j, (es j).length ≤ n) ∧ ∀ j, ∀ e ∈ es j, ∀ g, e.blk = some g → g < hi
def newBkG : Obj := .cells #[.int .i64 0, .slice none 0 0, .slice none 0 0, .slice none 0 0, .slice none 0 0, .slice none 0 0, .slice none 0 0, .slice none 0 0, .slice none 0 0, .slice none 0 0, .slice none 0 0, .slice none 0 0, .slice none 0 0] 51
theorem btg_new (w : World) (base hi : Nat) : BTg (w.alloc newBkG) w.heap.size base 0 hi :=
  ⟨fun _ => [], ⟨fun _ => .slice none 0 0, ⟨World.alloc_heap_new w _, Bk.KIn.nil _ _ _ _ _ _ _, Bk.KIn.nil _ _ _ _ _ _ _, Bk.KIn.nil _ _ _ _ _ _ _, fun _ _ _ _ => rfl⟩⟩, fun j => Nat.le_refl _, fun j e he => by simp at he⟩
theorem BTg.up {w : World} {bk base n hi hi' : Nat} (h : BTg w bk base n hi) (hh : hi ≤ hi') : BTg w bk base n hi' := by
  obtain ⟨es, h1, h2, h3⟩ := h
  exact ⟨es, h1, h2, fun j e he g hg => by have := h3 j e he g hg; omega⟩
theorem BTg.below {w w' : World} {bk base n hi : Nat} (h : BTg w bk base n hi) (hb : Below w.heap.size w w') : BTg w' bk base n hi := by
  obtain ⟨es, h1, h2, h3⟩ := h
  exact ⟨es, h1.below hb, h2, h3⟩
theorem neG_range {lo hi : Nat} (o p : Option Nat) (ho : ∀ g, o = some g → g < lo) (hp : ∀ g, p = some g → lo ≤ g ∧ g < hi) : o = none ∨ o ≠ p := by
  cases o with
  | none => exact .inl rfl
  | some g => exact .inr (fun e => by have := ho g rfl; have := hp g e.symm; omega)
theorem updG_len {es : Nat → List Bk.Ent} {c : Nat} {x : Bk.Ent} {n : Nat} (h : ∀ j, (es j).length ≤ n) (j : Nat) : (updG es c x j).length ≤ n + 1 := by
  unfold updG
  split
  · have := h c; simp; omega
  · have := h j; omega
theorem updG_lt {es : Nat → List Bk.Ent} {c lo hi : Nat} {x : Bk.Ent} (hlo : lo ≤ hi) (h : ∀ j, ∀ e ∈ es j, ∀ g, e.blk = some g → g < lo) (hx : ∀ g, x.blk = some g → lo ≤ g ∧ g < hi) (j : Nat) : ∀ e ∈ updG es c x j, ∀ g, e.blk = some g → g < hi := by
  unfold updG
  split
  · intro e he g hg
    rcases List.mem_append.1 he with h1 | h1
    · have := h _ e h1 g hg; omega
    · rw [List.mem_singleton] at h1
      subst h1
      exact (hx g hg).2
  · intro e he g hg
    have := h _ e he g hg; omega
theorem btg_ints {bk base n lo hi : Nat} {A : Option Addr} {len cap : Nat} {xs : List Value} {w : World} (hB : BTg w bk base n lo) (hx : w.ownsRow base 3 1 (.slice A len cap) len xs) (hr : ∀ g, (Value.slice A len cap).ownBlock = some g → lo ≤ g ∧ g < hi) (hlo : lo ≤ hi) (hb : base ≤ w.heap.size) (hbb : base ≤ bk) (hlen : len ≤ 10000000) (hn : n ≤ 700000) :
    Calls Tryz.prog 15 #[.pointer (some ⟨bk, 0, none⟩), .slice A len cap] w fun e w' => e = .returned (.tuple #[]) ∧ BTg w' bk base (n + 1) hi ∧ KG base w w' := by
  obtain ⟨es, h1, h2, h3⟩ := hB
  refine (bgInts_any bk base n A len cap es xs w (by omega) hb hbb h1 hx (fun e he => neG_range _ _ (h3 2 e he) hr) hlen (by have := h2 2; omega)).mono ?_
  rintro e w' ⟨rfl, k1, k2⟩
  exact ⟨rfl, ⟨_, k1, updG_len h2, updG_lt hlo h3 hr⟩, k2⟩
/-- A graph's nodes of the call's own, all whose blocks lie from lo up to hi. -/
structure InG (w : World) (base lo hi : Nat) (A : Option Addr) (c : Nat) (L : List Gn) : Prop where
  row : w.ownsRow base 73 3 (.slice A L.length c) L.length (flatG L)
  vec : ∀ x ∈ L, ∃ ys, w.ownsRow base 94 1 (.slice x.2.1.1 x.2.1.2.2.length x.2.1.2.1) x.2.1.2.2.length ys
  out : ∀ x ∈ L, ∃ ys, w.ownsRow base 3 1 (.slice x.2.2.1 x.2.2.2.2.length x.2.2.2.1) x.2.2.2.2.length ys
  len : ∀ x ∈ L, x.2.1.2.2.length ≤ 10000000 ∧ x.2.2.2.2.length ≤ 10000000
  av : L.Pairwise fun x y => vbG x.2.1 = none ∨ vbG x.2.1 ≠ vbG y.2.1
  ao : L.Pairwise fun x y => vbG x.2.2 = none ∨ vbG x.2.2 ≠ vbG y.2.2
  ro : ∀ g, (Value.slice A L.length c).ownBlock = some g → lo ≤ g ∧ g < hi
  rv : ∀ x ∈ L, ∀ g, vbG x.2.1 = some g → lo ≤ g ∧ g < hi
  ru : ∀ x ∈ L, ∀ g, vbG x.2.2 = some g → lo ≤ g ∧ g < hi
theorem InG.below {w w' : World} {base lo hi : Nat} {A : Option Addr} {c : Nat} {L : List Gn} (h : InG w base lo hi A c L) (hb : Below w.heap.size w w') : InG w' base lo hi A c L :=
  ⟨own_below h.row hb, fun x hx => by obtain ⟨ys, hy⟩ := h.vec x hx; exact ⟨ys, own_below hy hb⟩, fun x hx => by obtain ⟨ys, hy⟩ := h.out x hx; exact ⟨ys, own_below hy hb⟩, h.len, h.av, h.ao, h.ro, h.rv, h.ru⟩
theorem InG.kg {w w' : World} {base lo hi : Nat} {A : Option Addr} {c : Nat} {L : List Gn} (h : InG w base lo hi A c L) (hk : KG base w w') : InG w' base lo hi A c L :=
  ⟨hk.rn h.row, fun x hx => by obtain ⟨ys, hy⟩ := h.vec x hx; exact ⟨ys, hk.r8 hy⟩, fun x hx => by obtain ⟨ys, hy⟩ := h.out x hx; exact ⟨ys, hk.ri hy⟩, h.len, h.av, h.ao, h.ro, h.rv, h.ru⟩
theorem btg_graph {S : Int} {bk base n lo hi : Nat} {A : Option Addr} {c : Nat} {L : List Gn} {w : World} (hB : BTg w bk base n lo) (hE : InG w base lo hi A c L) (hlo : lo ≤ hi) (hb : base ≤ w.heap.size) (hbb : base ≤ bk) (hl : L.length ≤ 20000) (hn : n ≤ 700000) :
    Calls Tryz.prog 14 #[.pointer (some ⟨bk, 0, none⟩), .agg #[.slice A L.length c, .int .i64 S]] w fun e w' => e = .returned (.tuple #[]) ∧ BTg w' bk base (n + 2 * L.length + 1) hi ∧ KG base w w' := by
  obtain ⟨es, h1, h2, h3⟩ := hB
  refine (bgGraph_any S bk base n A c L _ rfl es w (by omega) hb hbb h1 ⟨hE.row, hE.vec, hE.out, hE.len, hE.av, hE.ao, fun e he x hx => neG_range _ _ (h3 3 e he) (hE.rv x hx), fun e he x hx => neG_range _ _ (h3 2 e he) (hE.ru x hx), fun e he => neG_range _ _ (h3 11 e he) hE.ro⟩ hl (h2 2) (h2 3) (h2 11)).mono ?_
  rintro e w' ⟨rfl, es', k1, k2, k3, k4, k5, k6, k7, k8⟩
  refine ⟨rfl, ⟨es', k1, fun j => ?_, fun j e he g hg => ?_⟩, k2⟩
  · by_cases q3 : j = 3
    · subst q3; omega
    · by_cases q2 : j = 2
      · subst q2; omega
      · by_cases q11 : j = 11
        · subst q11; rw [k7]; have := h2 11; simp; omega
        · rw [k8 j q2 q3 q11]; have := h2 j; omega
  · by_cases q3 : j = 3
    · subst q3
      rcases k3 e he with q | ⟨x, hx, q⟩
      · have := h3 3 e q g hg; omega
      · rw [q] at hg; exact (hE.rv x hx g hg).2
    · by_cases q2 : j = 2
      · subst q2
        rcases k4 e he with q | ⟨x, hx, q⟩
        · have := h3 2 e q g hg; omega
        · rw [q] at hg; exact (hE.ru x hx g hg).2
      · by_cases q11 : j = 11
        · subst q11
          rw [k7] at he
          rcases List.mem_append.1 he with q | q
          · have := h3 11 e q g hg; omega
          · rw [List.mem_singleton] at q
            subst q
            exact (hE.ro g hg).2
        · rw [k8 j q2 q3 q11] at he; have := h3 j e he g hg; omega
theorem btg_apart {w : World} {bk base n hi : Nat} (hB : BTg w bk base n hi) (hb : base ≤ w.heap.size) : Calls Tryz.prog 16 #[.pointer (some ⟨bk, 0, none⟩)] w fun e w' => e = .returned (.bool true) ∧ Below base w w' := by
  obtain ⟨es, ⟨sv, h⟩, _, _⟩ := hB
  exact Bk.apart_any hb h.at_ h.k2 h.k3 h.k11 (h.z 1 (by decide) (by decide) (by decide)) (h.z 4 (by decide) (by decide) (by decide)) (h.z 5 (by decide) (by decide) (by decide)) (h.z 6 (by decide) (by decide) (by decide)) (h.z 7 (by decide) (by decide) (by decide)) (h.z 8 (by decide) (by decide) (by decide)) (h.z 9 (by decide) (by decide) (by decide)) (h.z 10 (by decide) (by decide) (by decide)) (h.z 12 (by decide) (by decide) (by decide))
/-- A twin lies in the range from where it was made. -/
theorem TwinG.inG {w : World} {base lo g : Nat} {T : List Gn} (h : TwinG w lo g T) (hb : base ≤ lo) (hs : ∀ x ∈ pns T, x.2.1.length ≤ 20000 ∧ x.2.2.length ≤ 20000) : InG w base lo w.heap.size (some ⟨g, 0, none⟩) (T.length + 1) T :=
  ⟨own_base h.own hb, fun x hx => ⟨_, own_base (h.tv x hx).own hb⟩, fun x hx => ⟨_, own_base (h.to x hx).own hb⟩, fun x hx => by
    have h1 := hs _ (pns_mem hx)
    obtain ⟨q1, q2⟩ := h1
    exact ⟨Nat.le_trans q1 (by omega), Nat.le_trans q2 (by omega)⟩, h.av.imp_of_mem (fun {a b} ha hb2 hne => by
    obtain ⟨ga, ea, -, -⟩ := (h.tv a ha).lt
    obtain ⟨gb, eb, -, -⟩ := (h.tv b hb2).lt
    refine .inr fun e => hne ?_
    simp only [vbG, ea, eb, Value.ownBlock, Option.some.injEq] at e
    rw [ea, eb, e]), h.ao.imp_of_mem (fun {a b} ha hb2 hne => by
    obtain ⟨ga, ea, -, -⟩ := (h.to a ha).lt
    obtain ⟨gb, eb, -, -⟩ := (h.to b hb2).lt
    refine .inr fun e => hne ?_
    simp only [vbG, ea, eb, Value.ownBlock, Option.some.injEq] at e
    rw [ea, eb, e]), fun g hg => h.row.lt g hg, fun x hx g hg => (h.tv x hx).own.lt g hg, fun x hx g hg => (h.to x hx).own.lt g hg⟩
end Go.Proofs.YtfokejlancmahaaGreat
