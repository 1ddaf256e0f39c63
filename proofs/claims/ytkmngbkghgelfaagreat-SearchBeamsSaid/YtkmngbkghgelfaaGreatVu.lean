/- Several texts in one. -/
import Derived.Sort.LotA
import Derived.Shelf.SlSortCmp.KitK
import Derived.Sort.WalkB2
import Derived.Sort.WalkB12
import Derived.Deep.LoopGhost
import Derived.Lib.Hide
import Derived.Test.YtkmngbkghgelfaaGreatProg
import Derived.Shelf.SlSortCmp.InsertionK
import Derived.KernelRfl
import Derived.WalkKit
import Derived.Below
/- The mathematics of a stable sort by blocks that are merged in place: exchanges of two runs, a rotation, a merge by halves. Over plain arrays. -/
namespace Go.Proofs.YtkmngbkghgelfaaGreat
open Go.Sort
set_option linter.unusedVariables false
set_option linter.unusedSectionVars false
variable {α : Type} [Inhabited α]

/-- dk is d, but the first i places from a on and those from b on are exchanged. -/
def SwR (d dk : Array α) (a b i : Nat) : Prop :=
  dk.size = d.size ∧ ∀ t, dk[t]! = if a ≤ t ∧ t < a + i then d[b + (t - a)]! else if b ≤ t ∧ t < b + i then d[a + (t - b)]! else d[t]!
theorem SwR.start (d : Array α) (a b : Nat) : SwR d d a b 0 := ⟨rfl, fun t => by rw [if_neg (by omega), if_neg (by omega)]⟩
theorem SwR.step {d dk : Array α} {a b i : Nat} (h : SwR d dk a b i) (h1 : a + i < b) (h2 : b + i < d.size) : SwR d (swp dk (a + i) (b + i)) a b (i + 1) := by
  have hs := h.1
  refine ⟨by rw [size_swp]; exact hs, fun t => ?_⟩
  rw [swp_get dk (by omega) (by omega)]
  have ea := h.2 (a + i)
  have eb := h.2 (b + i)
  have et := h.2 t
  rw [if_neg (by omega), if_neg (by omega)] at ea eb
  rw [ea, eb, et]
  repeat' split
  all_goals first | rfl | (exfalso; omega) | (congr 1; omega)
/-- r is d, but the runs [a, m) and [m, b) stand the other way round. -/
def RotR (d r : Array α) (a m b : Nat) : Prop :=
  r.size = d.size ∧ ∀ t, r[t]! = if a ≤ t ∧ t < a + (b - m) then d[m + (t - a)]! else if a + (b - m) ≤ t ∧ t < b then d[t - (b - m)]! else d[t]!
theorem RotR.self (d : Array α) (a b : Nat) (h : a ≤ b) : RotR d d a b b := ⟨rfl, fun t => by
  rw [if_neg (by omega)]; split
  · congr 1; omega
  · rfl⟩
theorem RotR.self' (d : Array α) (a b : Nat) (h : a ≤ b) : RotR d d a a b := ⟨rfl, fun t => by
  split
  · congr 1; omega
  · rw [if_neg (by omega)]⟩
/-- What a rotation comes to from the state (i, j) of its loop on. -/
theorem RotR.more {d dk dn r : Array α} {m i j : Nat} (h : SwR dk dn (m - i) m j) (hij : j < i) (him : i ≤ m) (hr : RotR dn r (m - (i - j)) m (m + j)) : RotR dk r (m - i) m (m + j) := by
  refine ⟨hr.1.trans h.1, fun t => ?_⟩
  rw [hr.2 t]
  have e0 := h.2 t
  have e1 := h.2 (m + (t - (m - (i - j))))
  have e2 := h.2 (t - j)
  have e3 : m + j - m = j := by omega
  rw [e3, e1, e2, e0]
  repeat' split
  all_goals first | rfl | (exfalso; omega) | (congr 1; omega)
theorem RotR.less {d dk dn r : Array α} {m i j : Nat} (h : SwR dk dn (m - i) (m + j - i) i) (hij : i < j) (him : i ≤ m) (hr : RotR dn r (m - i) m (m + (j - i))) : RotR dk r (m - i) m (m + j) := by
  refine ⟨hr.1.trans h.1, fun t => ?_⟩
  rw [hr.2 t]
  have e0 := h.2 t
  have e1 := h.2 (m + (t - (m - i)))
  have e2 := h.2 (t - (j - i))
  have e3 : m + j - m = j := by omega
  have e4 : m + (j - i) - m = j - i := by omega
  rw [e3, e4, e1, e2, e0]
  repeat' split
  all_goals first | rfl | (exfalso; omega) | (congr 1; omega)
theorem RotR.last {dk dn : Array α} {m i : Nat} (h : SwR dk dn (m - i) m i) (him : i ≤ m) : RotR dk dn (m - i) m (m + i) := by
  refine ⟨h.1, fun t => ?_⟩
  have e0 := h.2 t
  have e3 : m + i - m = i := by omega
  rw [e3, e0]
  repeat' split
  all_goals first | rfl | (exfalso; omega) | (congr 1; omega)
/-- One exchange more carries the element of place a one place on. -/
theorem RotR.right {d dk : Array α} {a k : Nat} (h : RotR d dk a (a + 1) (k + 1)) (hk : a ≤ k) (hs : k + 1 < d.size) : RotR d (swp dk k (k + 1)) a (a + 1) (k + 1 + 1) := by
  have hz := h.1
  refine ⟨by rw [size_swp]; exact hz, fun t => ?_⟩
  rw [swp_get dk (by omega) (by omega)]
  have ea := h.2 k
  have eb := h.2 (k + 1)
  have et := h.2 t
  rw [if_neg (by omega), if_pos (by omega)] at ea
  rw [if_neg (by omega), if_neg (by omega)] at eb
  rw [ea, eb, et]
  repeat' split
  all_goals first | rfl | (exfalso; omega) | (congr 1; omega)
theorem RotR.left {d dk : Array α} {k m : Nat} (h : RotR d dk (k + 1) m (m + 1)) (hk : k + 1 ≤ m) (hs : m < d.size) : RotR d (swp dk (k + 1) k) k m (m + 1) := by
  have hz := h.1
  refine ⟨by rw [size_swp]; exact hz, fun t => ?_⟩
  rw [swp_get dk (by omega) (by omega)]
  have ea := h.2 k
  have eb := h.2 (k + 1)
  have et := h.2 t
  rw [if_neg (by omega), if_neg (by omega)] at ea
  rw [if_pos (by omega)] at eb
  rw [ea, eb, et]
  repeat' split
  all_goals first | rfl | (exfalso; omega) | (congr 1; omega)

variable {lt : α → α → Bool}
theorem SWO.le_trans (hS : SWO lt) {x y z : α} (h1 : lt y x = false) (h2 : lt z y = false) : lt z x = false := hS.ntrans z y x h2 h1
/-- The first run is one element: it is carried ahead of the first that is not less. -/
theorem ins_right (hS : SWO lt) {d r : Array α} {a b i : Nat} (hab : a + 1 ≤ i) (hib : i ≤ b) (hB : SortedIn lt (a + 1) b d) (h1 : i = a + 1 ∨ lt d[i - 1]! d[a]! = true) (h2 : i = b ∨ lt d[i]! d[a]! = false)
    (hR : RotR d r a (a + 1) i) : SortedIn lt a b r := by
  have k1 : ∀ x, a + 1 ≤ x → x < i → lt d[a]! d[x]! = false := fun x hx hxi => by
    rcases h1 with h | h
    · omega
    · have e : lt d[i - 1]! d[x]! = false := by
        rcases Nat.lt_or_ge x (i - 1) with h3 | h3
        · exact hB x (i - 1) hx h3 (by omega)
        · rw [show x = i - 1 by omega]; exact hS.irrefl _
      exact SWO.le_trans hS e (SWO.asymmA hS h)
  have k2 : ∀ x, i ≤ x → x < b → lt d[x]! d[a]! = false := fun x hx hxb => by
    rcases h2 with h | h
    · omega
    · rcases Nat.lt_or_ge i x with h3 | h3
      · exact SWO.le_trans hS h (hB i x hab h3 hxb)
      · rw [show x = i by omega]; exact h
  intro p q hp hpq hq
  rw [hR.2 p, hR.2 q]
  repeat' split
  all_goals first
    | (exfalso; omega)
    | (refine hB _ _ ?_ ?_ ?_ <;> omega)
    | (rw [show q - (i - (a + 1)) = a by omega]; exact k1 _ (by omega) (by omega))
    | (rw [show p - (i - (a + 1)) = a by omega]; exact k2 _ (by omega) (by omega))
/-- The second run is one element: it is carried behind the last that is not greater. -/
theorem ins_left (hS : SWO lt) {d r : Array α} {a m i : Nat} (hai : a ≤ i) (him : i ≤ m) (hA : SortedIn lt a m d) (h1 : i = a ∨ lt d[m]! d[i - 1]! = false) (h2 : i = m ∨ lt d[m]! d[i]! = true)
    (hR : RotR d r i m (m + 1)) : SortedIn lt a (m + 1) r := by
  have k1 : ∀ x, a ≤ x → x < i → lt d[m]! d[x]! = false := fun x hx hxi => by
    rcases h1 with h | h
    · omega
    · rcases Nat.lt_or_ge x (i - 1) with h3 | h3
      · exact SWO.le_trans hS (hA x (i - 1) hx h3 (by omega)) h
      · rw [show x = i - 1 by omega]; exact h
  have k2 : ∀ x, i ≤ x → x < m → lt d[x]! d[m]! = false := fun x hx hxm => by
    rcases h2 with h | h
    · omega
    · have e : lt d[x]! d[i]! = false := by
        rcases Nat.lt_or_ge i x with h3 | h3
        · exact hA i x hai h3 hxm
        · rw [show x = i by omega]; exact hS.irrefl _
      exact SWO.le_trans hS (SWO.asymmA hS h) e
  intro p q hp hpq hq
  rw [hR.2 p, hR.2 q]
  repeat' split
  all_goals first
    | (exfalso; omega)
    | (refine hA _ _ ?_ ?_ ?_ <;> omega)
    | (rw [show m + (q - i) = m by omega]; exact k1 _ (by omega) (by omega))
    | (rw [show m + (p - i) = m by omega]; exact k2 _ (by omega) (by omega))
/-- Behind the rotation: four sorted runs; nothing of the first half is greater than anything of the second. -/
theorem halves (hS : SWO lt) {d r : Array α} {a m b s e : Nat} (has : a ≤ s) (hsm : s ≤ m) (hme : m ≤ e) (heb : e ≤ b) (hA : SortedIn lt a m d) (hB : SortedIn lt m b d)
    (c1 : s = a ∨ e = b ∨ lt d[e]! d[s - 1]! = false) (c2 : s = m ∨ e = m ∨ lt d[e - 1]! d[s]! = true) (hR : RotR d r s m e) :
    SortedIn lt a s r ∧ SortedIn lt s (s + (e - m)) r ∧ SortedIn lt (s + (e - m)) e r ∧ SortedIn lt e b r ∧ ∀ x y, a ≤ x → x < s + (e - m) → s + (e - m) ≤ y → y < b → lt r[y]! r[x]! = false := by
  have k1 : ∀ x y, a ≤ x → x < s → e ≤ y → y < b → lt d[y]! d[x]! = false := fun x y h1 h2 h3 h4 => by
    rcases c1 with h | h | h
    · omega
    · omega
    · have e1 : lt d[s - 1]! d[x]! = false := by
        rcases Nat.lt_or_ge x (s - 1) with h5 | h5
        · exact hA x (s - 1) h1 h5 (by omega)
        · rw [show x = s - 1 by omega]; exact hS.irrefl _
      have e2 : lt d[y]! d[e]! = false := by
        rcases Nat.lt_or_ge e y with h5 | h5
        · exact hB e y hme h5 h4
        · rw [show y = e by omega]; exact hS.irrefl _
      exact SWO.le_trans hS (SWO.le_trans hS e1 h) e2
  have k2 : ∀ x y, m ≤ x → x < e → s ≤ y → y < m → lt d[y]! d[x]! = false := fun x y h1 h2 h3 h4 => by
    rcases c2 with h | h | h
    · omega
    · omega
    · have e1 : lt d[e - 1]! d[x]! = false := by
        rcases Nat.lt_or_ge x (e - 1) with h5 | h5
        · exact hB x (e - 1) h1 h5 (by omega)
        · rw [show x = e - 1 by omega]; exact hS.irrefl _
      have e2 : lt d[y]! d[s]! = false := by
        rcases Nat.lt_or_ge s y with h5 | h5
        · exact hA s y has h5 h4
        · rw [show y = s by omega]; exact hS.irrefl _
      exact SWO.le_trans hS (SWO.le_trans hS e1 (SWO.asymmA hS h)) e2
  have k3 : ∀ x y, m ≤ x → x < e → e ≤ y → y < b → lt d[y]! d[x]! = false := fun x y h1 h2 h3 h4 => hB x y h1 (by omega) h4
  have k4 : ∀ x y, a ≤ x → x < s → s ≤ y → y < m → lt d[y]! d[x]! = false := fun x y h1 h2 h3 h4 => hA x y h1 (by omega) h4
  refine ⟨?_, ?_, ?_, ?_, ?_⟩
  all_goals
    intro p q h1 h2 h3
    try intro h4
    rw [hR.2 p, hR.2 q]
    repeat' split
    all_goals first
      | (exfalso; omega)
      | (refine hA _ _ ?_ ?_ ?_ <;> omega)
      | (refine hB _ _ ?_ ?_ ?_ <;> omega)
      | (refine k1 _ _ ?_ ?_ ?_ ?_ <;> omega)
      | (refine k2 _ _ ?_ ?_ ?_ ?_ <;> omega)
      | (refine k3 _ _ ?_ ?_ ?_ ?_ <;> omega)
      | (refine k4 _ _ ?_ ?_ ?_ ?_ <;> omega)
/-- Two halves, each sorted, the first not greater than the second. -/
theorem glue {d : Array α} {a m b : Nat} (h1 : SortedIn lt a m d) (h2 : SortedIn lt m b d) (h3 : ∀ x y, a ≤ x → x < m → m ≤ y → y < b → lt d[y]! d[x]! = false) : SortedIn lt a b d := fun p q hp hpq hq => by
  rcases Nat.lt_or_ge q m with h | h
  · exact h1 p q hp hpq h
  · rcases Nat.lt_or_ge p m with h' | h'
    · exact h3 p q hp h' h hq
    · exact h2 p q h' hpq hq
theorem cross_perm {d d' : Array α} {a m b : Nat} (hb : b ≤ d.size) (hm : m ≤ b) (h3 : ∀ x y, a ≤ x → x < m → m ≤ y → y < b → lt d[y]! d[x]! = false) (hp : PermIn a m d d') :
    ∀ x y, a ≤ x → x < m → m ≤ y → y < b → lt d'[y]! d'[x]! = false := fun x y h1 h2 h4 h5 => by
  rw [hp.2.1 y (.inr h4)]
  exact permIn_all d d' a m (fun v => lt d[y]! v = false) (by omega) hp (fun i hi hi' => h3 i y hi hi' h4 h5) x h1 h2
theorem cross_perm' {d d' : Array α} {a m b : Nat} (hb : b ≤ d.size) (h3 : ∀ x y, a ≤ x → x < m → m ≤ y → y < b → lt d[y]! d[x]! = false) (hp : PermIn m b d d') :
    ∀ x y, a ≤ x → x < m → m ≤ y → y < b → lt d'[y]! d'[x]! = false := fun x y h1 h2 h4 h5 => by
  rw [hp.2.1 x (.inl h2)]
  exact permIn_all d d' m b (fun v => lt v d[x]! = false) (by omega) hp (fun i hi hi' => h3 x i h1 h2 hi hi') y h4 h5
end Go.Proofs.YtkmngbkghgelfaaGreat
/- The walks of the library's in-place merge (swapRange, rotate), at elements of k cells: over any program that bears these bodies. -/
namespace Go.Proofs.YtkmngbkghgelfaaGreat
open Go.Shelf Go.RowKit Go.Lib Go.Sort
set_option linter.unusedVariables false
/-- What is asked of a program: these five bodies, the types that they speak of; an element fills k cells. -/
structure HitLays (P : Program) (k : Nat) : Prop where
  mixed : P.follows .mixedOrders = true
  f79 : P.funcs[139]? = some Tryz.f139
  c79 : ∀ args w, (callFunc 139 args).run P w = .ok (.enter 139 args) w
  f106 : P.funcs[144]? = some Tryz.f144
  c106 : ∀ args w, (callFunc 144 args).run P w = .ok (.enter 144 args) w
  f107 : P.funcs[145]? = some Tryz.f145
  c107 : ∀ args w, (callFunc 145 args).run P w = .ok (.enter 145 args) w
  f108 : P.funcs[148]? = some Tryz.f148
  c108 : ∀ args w, (callFunc 148 args).run P w = .ok (.enter 148 args) w
  f109 : P.funcs[149]? = some Tryz.f149
  c109 : ∀ args w, (callFunc 149 args).run P w = .ok (.enter 149 args) w
  t0 : P.underlying 0 = some (TypeDesc.tuple #[])
  a0 : ∀ w, (isAgg 0).run P w = .ok false w
  z0 : ∀ w, (Go.sizeOf 0).run P w = .ok 1 w
  v0 : ∀ w, (zeroValue 0).run P w = .ok (Value.tuple #[]) w
  t3 : P.underlying 3 = some (TypeDesc.int .i64)
  a3 : ∀ w, (isAgg 3).run P w = .ok false w
  z3 : ∀ w, (Go.sizeOf 3).run P w = .ok 1 w
  v3 : ∀ w, (zeroValue 3).run P w = .ok (Value.int .i64 0) w
  t4 : P.underlying 4 = some (TypeDesc.bool)
  a4 : ∀ w, (isAgg 4).run P w = .ok false w
  z4 : ∀ w, (Go.sizeOf 4).run P w = .ok 1 w
  v4 : ∀ w, (zeroValue 4).run P w = .ok (Value.bool false) w
  t29 : P.underlying 30 = some (TypeDesc.slice 78)
  a29 : ∀ w, (isAgg 30).run P w = .ok false w
  z29 : ∀ w, (Go.sizeOf 30).run P w = .ok 1 w
  v29 : ∀ w, (zeroValue 30).run P w = .ok (Value.slice none 0 0) w
  t72 : P.underlying 184 = some (TypeDesc.func #[78, 78] #[3] false)
  a72 : ∀ w, (isAgg 184).run P w = .ok false w
  z72 : ∀ w, (Go.sizeOf 184).run P w = .ok 1 w
  v72 : ∀ w, (zeroValue 184).run P w = .ok (Value.nilFunc) w
  t148 : P.underlying 197 = some (TypeDesc.int .u64)
  a148 : ∀ w, (isAgg 197).run P w = .ok false w
  z148 : ∀ w, (Go.sizeOf 197).run P w = .ok 1 w
  v148 : ∀ w, (zeroValue 197).run P w = .ok (Value.int .u64 0) w
  aE : ∀ w, (isAgg 78).run P w = .ok true w
  zE : ∀ w, (Go.sizeOf 78).run P w = .ok k w
theorem hitLays : HitLays Tryz.prog 2 where
  mixed := by kernel_rfl
  f79 := Tryz.func139
  c79 := Tryz.call139
  f106 := Tryz.func144
  c106 := Tryz.call144
  f107 := Tryz.func145
  c107 := Tryz.call145
  f108 := Tryz.func148
  c108 := Tryz.call148
  f109 := Tryz.func149
  c109 := Tryz.call149
  t0 := Tryz.underlying0
  a0 := Tryz.isAgg0
  z0 := Tryz.sizeOf0
  v0 := Tryz.zeroValue0
  t3 := Tryz.underlying3
  a3 := Tryz.isAgg3
  z3 := Tryz.sizeOf3
  v3 := Tryz.zeroValue3
  t4 := Tryz.underlying4
  a4 := Tryz.isAgg4
  z4 := Tryz.sizeOf4
  v4 := Tryz.zeroValue4
  t29 := Tryz.underlying30
  a29 := Tryz.isAgg30
  z29 := Tryz.sizeOf30
  v29 := Tryz.zeroValue30
  t72 := Tryz.underlying184
  a72 := Tryz.isAgg184
  z72 := Tryz.sizeOf184
  v72 := Tryz.zeroValue184
  t148 := Tryz.underlying197
  a148 := Tryz.isAgg197
  z148 := Tryz.sizeOf197
  v148 := Tryz.zeroValue197
  aE := Tryz.isAgg78
  zE := Tryz.sizeOf78
variable {P : Program} {α : Type} [Inhabited α]

set_option maxHeartbeats 4000000 in
set_option maxRecDepth 1000000 in
theorem swapRange_any {k : Nat} (L : HitLays P k) (enc : α → List Value) (fv : Value) (blk off cap a b n : Nat) (d0 d : Array α) (w0 w : World)
    (R : RowK enc k w0 blk off d0) (hs : d.size = d0.size) (S : SWK enc k w0 blk off d w) (hab : a + n ≤ b) (hb : b + n ≤ d.size) (hsz : d.size < 4611686018427387904) :
    Calls P 149 #[.slice (some ⟨blk, off, none⟩) d.size cap, .int .i64 a, .int .i64 b, .int .i64 n, fv] w fun e w' => e = .returned (.tuple #[]) ∧ ∃ d', SwR d d' a b n ∧ PermIn a (b + n) d d' ∧ SWK enc k w0 blk off d' w' := by
  have mixed := L.mixed; have t0 := L.t0; have a0 := L.a0; have z0 := L.z0; have v0 := L.v0; have t3 := L.t3; have a3 := L.a3; have z3 := L.z3; have v3 := L.v3; have t4 := L.t4; have a4 := L.a4; have z4 := L.z4; have v4 := L.v4; have t29 := L.t29; have a29 := L.a29; have z29 := L.z29; have v29 := L.v29; have t72 := L.t72; have a72 := L.a72; have z72 := L.z72; have v72 := L.v72; have t148 := L.t148; have a148 := L.a148; have z148 := L.z148; have v148 := L.v148; have u29 := run_underlying L.t29; have aE := L.aE; have zE := L.zE
  have S0 : Aside (SWK enc k w0 blk off d w) := S
  have HS := Lib.hid hs
  clear S hs
  go_enter L.f109, Tryz.ntmps149
  go_wp2
  go_loopg [10] n (fun g s wr => ∃ (i : Nat) (dk : Array α), s = .int .i64 i ∧ i ≤ n ∧ n - i ≤ g ∧ Aside (SWK enc k w0 blk off dk wr) ∧ Hid (SwR d dk a b i ∧ PermIn a (b + n) d dk))
  case atStart => exact ⟨0, d, rfl, by omega, by omega, S0, (⟨SwR.start d a b, permIn_refl _ _ _⟩ : SwR d d a b 0 ∧ PermIn a (b + n) d d)⟩
  case round =>
    clear S0
    obtain ⟨i, dk, rfl, hin, hg, S1, HR⟩ := hrel
    by_cases hlt : i < n
    · have hltz : (i : Int) < (n : Int) := by omega
      have hds := HR.out.1.1
      have ea : ((a : Int) + (i : Int)).toNat = a + i := by omega
      have pa : (0 : Int) ≤ (a : Int) + (i : Int) := by omega
      have ba : (a : Int) + (i : Int) < (d.size : Int) := by omega
      have ra : IntKind.i64.wrap ((a : Int) + (i : Int)) = (a : Int) + (i : Int) := by rw [IntKind.wrap_i64]; omega
      have ec : ((b : Int) + (i : Int)).toNat = b + i := by omega
      have pc : (0 : Int) ≤ (b : Int) + (i : Int) := by omega
      have bc : (b : Int) + (i : Int) < (d.size : Int) := by omega
      have rc : IntKind.i64.wrap ((b : Int) + (i : Int)) = (b : Int) + (i : Int) := by rw [IntKind.wrap_i64]; omega
      have hd0 : dk.size = d0.size := hds.trans HS.out
      have S2 : Aside (SWK enc k w0 blk off (swp dk (a + i) (b + i)) ((wr.drew.setCells blk (off + (a + i) * k) (enc dk[b + i]!)).setCells blk (off + (b + i) * k) (enc dk[a + i]!))) := S1.out.swapped R (a + i) (b + i) (by omega) (by omega)
      have la := S1.out.ld1 R hd0 P (a + i) (by omega)
      have lb := S1.out.ld1 R hd0 P (b + i) (by omega)
      have sa := S1.out.st1 R hd0 P (a + i) (by omega) dk[b + i]!
      have sb := S1.out.st2 R hd0 P (a + i) (b + i) (by omega) (by omega) dk[b + i]! dk[a + i]!
      have na : (enc dk[a + i]!).length = k := R.hk _
      have nb : (enc dk[b + i]!).length = k := R.hk _
      have HN : Hid (SwR d (swp dk (a + i) (b + i)) a b (i + 1) ∧ PermIn a (b + n) d (swp dk (a + i) (b + i))) := ⟨HR.out.1.step (by omega) (by omega), permIn_trans _ _ _ _ _ HR.out.2 (swp_permIn dk a (b + n) _ _ (by omega) (by omega) (by omega) (by omega) (by omega))⟩
      clear hds hd0
      generalize enc dk[a + i]! = cI at S2 la sb na
      generalize enc dk[b + i]! = cJ at S2 lb sa sb nb
      clear S1 HR
      go_wp2_with fail
      go_big_region_o
      clear la lb sa sb
      generalize (wr.drew.setCells blk (off + (a + i) * k) cJ).setCells blk (off + (b + i) * k) cI = w2 at S2 ⊢
      go_wp2
      go_roundg (n - (i + 1))
      case measure => omega
      case rel => exact ⟨i + 1, _, by simp, by omega, by omega, S2, HN⟩
    · have hltz : ¬ (i : Int) < (n : Int) := by omega
      go_wp2
      go_end0
      obtain rfl : i = n := by omega
      exact ⟨rfl, dk, HR.out.1, HR.out.2, S1.out⟩

set_option maxHeartbeats 4000000 in
set_option maxRecDepth 1000000 in
theorem rotate_any {k : Nat} (L : HitLays P k) (enc : α → List Value) (fv : Value) (blk off cap a m b : Nat) (d0 d : Array α) (w0 w : World)
    (R : RowK enc k w0 blk off d0) (hs : d.size = d0.size) (S : SWK enc k w0 blk off d w) (ham : a < m) (hmb : m < b) (hb : b ≤ d.size) (hsz : d.size < 4611686018427387904) :
    Calls P 148 #[.slice (some ⟨blk, off, none⟩) d.size cap, .int .i64 a, .int .i64 m, .int .i64 b, fv] w fun e w' => e = .returned (.tuple #[]) ∧ ∃ d', RotR d d' a m b ∧ PermIn a b d d' ∧ SWK enc k w0 blk off d' w' := by
  have mixed := L.mixed; have t0 := L.t0; have a0 := L.a0; have z0 := L.z0; have v0 := L.v0; have t3 := L.t3; have a3 := L.a3; have z3 := L.z3; have v3 := L.v3; have t4 := L.t4; have a4 := L.a4; have z4 := L.z4; have v4 := L.v4; have t29 := L.t29; have a29 := L.a29; have z29 := L.z29; have v29 := L.v29; have t72 := L.t72; have a72 := L.a72; have z72 := L.z72; have v72 := L.v72; have t148 := L.t148; have a148 := L.a148; have z148 := L.z148; have v148 := L.v148; have u29 := run_underlying L.t29; have aE := L.aE; have zE := L.zE
  have c109 := L.c109
  have S0 : Aside (SWK enc k w0 blk off d w) := S
  have HS := Lib.hid hs
  have CALL : Aside (∀ (x y n : Nat) (dk : Array α) (wr : World), dk.size = d.size → SWK enc k w0 blk off dk wr → x + n ≤ y → y + n ≤ d.size → Calls P 149 #[.slice (some ⟨blk, off, none⟩) d.size cap, .int .i64 x, .int .i64 y, .int .i64 n, fv] wr fun e w' => e = .returned (.tuple #[]) ∧ ∃ d', SwR dk d' x y n ∧ PermIn x (y + n) dk d' ∧ SWK enc k w0 blk off d' w') := fun x y n dk wr h1 h2 h3 h4 => by
    have := swapRange_any L enc fv blk off cap x y n d0 dk w0 wr R (h1.trans hs) h2 h3 (by omega) (by omega)
    rw [h1] at this
    exact this
  clear S hs
  have eA : ((m - a : Nat) : Int) = (m : Int) - (a : Int) := by omega
  have eB : ((b - m : Nat) : Int) = (b : Int) - (m : Int) := by omega
  have EA := Lib.hid eA
  have EB := Lib.hid eB
  clear eA eB
  go_enter L.f108, Tryz.ntmps148
  go_wp2
  go_loopg [10, 11] (b - a) (fun g s10 s11 wr => ∃ (i j : Nat) (dk : Array α), s10 = .int .i64 i ∧ s11 = .int .i64 j ∧ 1 ≤ i ∧ 1 ≤ j ∧ i ≤ m - a ∧ j ≤ b - m ∧ i + j ≤ g ∧ Aside (SWK enc k w0 blk off dk wr) ∧ Hid ((∀ r, RotR dk r (m - i) m (m + j) → RotR d r a m b) ∧ PermIn a b d dk))
  case atStart => exact ⟨m - a, b - m, d, by rw [EA.out], by rw [EB.out], by omega, by omega, by omega, by omega, by omega, S0, (⟨fun r hr => by rw [show m - (m - a) = a by omega, show m + (b - m) = b by omega] at hr; exact hr, permIn_refl _ _ _⟩ : (∀ r, RotR d r (m - (m - a)) m (m + (b - m)) → RotR d r a m b) ∧ PermIn a b d d)⟩
  case round =>
    clear S0
    obtain ⟨i, j, dk, rfl, rfl, hi1, hj1, hia, hjb, hg, S1, HR⟩ := hrel
    have hds := HR.out.2.1
    have EI := Lib.hid (show ((m - i : Nat) : Int) = (m : Int) - (i : Int) by omega)
    rcases Nat.lt_trichotomy i j with hij | hij | hij
    · have n1 : ((i : Int) != (j : Int)) = true := by simp; omega
      have n2 : ¬ (j : Int) < (i : Int) := by omega
      have EJ := Lib.hid (show ((m + j - i : Nat) : Int) = (m : Int) + (j : Int) - (i : Int) by omega)
      have H := CALL.out (m - i) (m + j - i) i dk wr hds S1.out (by omega) (by omega)
      rw [EI.out, EJ.out] at H
      have HC := Lib.hid H
      clear H hds S1
      go_wp2_with fail
      refine HC.out.mono ?_
      rintro e w2 ⟨rfl, d2, hSw, hP2, hS2⟩
      have S2 : Aside (SWK enc k w0 blk off d2 w2) := hS2
      have HN : Hid ((∀ r, RotR d2 r (m - i) m (m + (j - i)) → RotR d r a m b) ∧ PermIn a b d d2) := ⟨fun r hr => HR.out.1 r (RotR.less (d := d) hSw hij (by omega) hr), permIn_trans _ _ _ _ _ HR.out.2 (permIn_mono _ _ _ _ _ _ (by omega) (by omega) (by have := HR.out.2.1; omega) hP2)⟩
      clear hSw hP2 hS2 HC HR EJ EI
      have EK := Lib.hid (show ((j - i : Nat) : Int) = (j : Int) - (i : Int) by omega)
      go_wp2
      go_roundg (i + (j - i))
      case measure => omega
      case rel => exact ⟨i, j - i, d2, rfl, by rw [EK.out], by omega, by omega, by omega, by omega, by omega, S2, HN⟩
    · subst hij
      have H := CALL.out (m - i) m i dk wr hds S1.out (by omega) (by omega)
      rw [EI.out] at H
      have HC := Lib.hid H
      have n1 : ((i : Int) != (i : Int)) = false := by simp
      clear H hds S1
      go_wp2_with fail
      refine HC.out.mono ?_
      rintro e w2 ⟨rfl, d2, hSw, hP2, hS2⟩
      go_wp2
      go_end0
      exact ⟨rfl, d2, HR.out.1 _ (RotR.last hSw (by omega)), permIn_trans _ _ _ _ _ HR.out.2 (permIn_mono _ _ _ _ _ _ (by omega) (by omega) (by have := HR.out.2.1; omega) hP2), hS2⟩
    · have n1 : ((i : Int) != (j : Int)) = true := by simp; omega
      have n2 : (j : Int) < (i : Int) := by omega
      have H := CALL.out (m - i) m j dk wr hds S1.out (by omega) (by omega)
      rw [EI.out] at H
      have HC := Lib.hid H
      clear H hds S1
      go_wp2_with fail
      refine HC.out.mono ?_
      rintro e w2 ⟨rfl, d2, hSw, hP2, hS2⟩
      have S2 : Aside (SWK enc k w0 blk off d2 w2) := hS2
      have HN : Hid ((∀ r, RotR d2 r (m - (i - j)) m (m + j) → RotR d r a m b) ∧ PermIn a b d d2) := ⟨fun r hr => HR.out.1 r (RotR.more (d := d) hSw hij (by omega) hr), permIn_trans _ _ _ _ _ HR.out.2 (permIn_mono _ _ _ _ _ _ (by omega) (by omega) (by have := HR.out.2.1; omega) hP2)⟩
      clear hSw hP2 hS2 HC HR EI
      have EK := Lib.hid (show ((i - j : Nat) : Int) = (i : Int) - (j : Int) by omega)
      go_wp2
      go_roundg (i - j + j)
      case measure => omega
      case rel => exact ⟨i - j, j, d2, by rw [EK.out], rfl, by omega, by omega, by omega, by omega, by omega, S2, HN⟩
end Go.Proofs.YtkmngbkghgelfaaGreat
/- The library's insertion sort at hits, by the shelf's contract; a hit as cells; the order of hits. -/
namespace Go.Proofs.YtkmngbkghgelfaaGreat
open Go.Shelf Go.RowKit Go.Lib Go.Sort
set_option linter.unusedVariables false
/-- The shelf's numbers at this program. -/
def insRen : Ren := { f := fun n => if n = 20 then 144 else n, t := fun n => if n = 22 then 30 else if n = 24 then 78 else if n = 25 then 184 else n, g := fun n => n }
theorem insLays : SlLaysF0.n20 Tryz.prog insRen where
  mixed := by kernel_rfl
  f20 := ⟨Tryz.f144.name, by kernel_rfl, Tryz.func144.trans (congrArg some (by kernel_rfl))⟩
  t0 := Tryz.underlying0
  a0 := Tryz.isAgg0
  z0 := Tryz.sizeOf0
  v0 := Tryz.zeroValue0
  t3 := Tryz.underlying3
  a3 := Tryz.isAgg3
  z3 := Tryz.sizeOf3
  v3 := Tryz.zeroValue3
  t4 := Tryz.underlying4
  a4 := Tryz.isAgg4
  z4 := Tryz.sizeOf4
  v4 := Tryz.zeroValue4
  t22 := Tryz.underlying30
  a22 := Tryz.isAgg30
  z22 := Tryz.sizeOf30
  v22 := Tryz.zeroValue30
  t25 := Tryz.underlying184
  a25 := Tryz.isAgg184
  z25 := Tryz.sizeOf184
  v25 := Tryz.zeroValue184
/-- A hit's two cells: its ID, how far it is. -/
def encH (h : Int × Int) : List Value := [.int .u64 h.1, .int .i64 h.2]
theorem encH_len (h : Int × Int) : (encH h).length = 2 := rfl
theorem encH_one (h : Int × Int) : ∀ v ∈ encH h, v.oneCell' = true := fun v hv => by simp [encH] at hv; rcases hv with rfl | rfl <;> rfl
theorem insertion_any (cf : Int × Int → Int × Int → Int) (g : Nat) (cb : Array Value) (blk off cap a b : Nat) (d : Array (Int × Int)) (w : World)
    (eg : ∀ args w, (callFunc g args).run Tryz.prog w = .ok (.enter g args) w) (hcmp : CmpLays Tryz.prog g cb encH 2 cf blk off d.size w) (hH : HoldsK encH 2 w blk off d) (hblk : blk < w.heap.size) (hab : a ≤ b) (hb : b ≤ d.size) (hsz : d.size < 4611686018427387904) :
    Calls Tryz.prog 144 #[.slice (some ⟨blk, off, none⟩) d.size cap, .int .i64 a, .int .i64 b, .func (.func g) #[] cb] w fun e w' =>
      e = .returned (.tuple #[]) ∧ ∃ n os, w' = sortWorldK encH 2 w blk off n (Sort.insertionSort (ltOf cf) d a b) os :=
  AnyQ.insertionSortCmpFunc insLays 2 Tryz.isAgg78 Tryz.sizeOf78 encH encH_len encH_one cf g cb blk off cap a b d w eg hcmp hH hblk hab hb hsz
/-- Is a hit nearer than another one? -/
def ltH (x y : Int × Int) : Bool := decide (x.2 < y.2 ∨ (x.2 = y.2 ∧ x.1 < y.1))
def cfH (x y : Int × Int) : Int := if ltH x y then -1 else if ltH y x then 1 else 0
theorem ltOf_cfH : ltOf cfH = ltH := by
  funext x y
  unfold ltOf cfH
  cases h : ltH x y
  · simp; split <;> omega
  · simp
theorem swoH : SWO ltH where
  irrefl x := by unfold ltH; simp
  trans x y z h1 h2 := by unfold ltH at *; simp at *; omega
  ntrans x y z h1 h2 := by unfold ltH at *; simp at *; omega
theorem sepH (x y : Int × Int) (h1 : ltH x y = false) (h2 : ltH y x = false) : x = y := by
  unfold ltH at *; simp at *; obtain ⟨a, b⟩ := x; obtain ⟨c, d⟩ := y; simp at *; omega
end Go.Proofs.YtkmngbkghgelfaaGreat
/- The walks of Less and of the comparison that Sort hands to the library. -/
namespace Go.Proofs.YtkmngbkghgelfaaGreat
open Go.Shelf Go.RowKit Go.Lib Go.Sort
set_option linter.unusedVariables false
theorem retbb {a b : Bool} (h : a = b) : Ending.returned (.bool a) = .returned (.bool b) := by rw [h]
set_option maxHeartbeats 1000000 in
theorem less_any (a b c d : Int) (w : World) :
    Calls Tryz.prog 126 #[.agg #[.int .u64 a, .int .i64 b], .agg #[.int .u64 c, .int .i64 d]] w fun e w' => e = .returned (.bool (ltH (a, b) (c, d))) ∧ w' = (w.alloc (.cells #[.int .u64 a, .int .i64 b] 78)).alloc (.cells #[.int .u64 c, .int .i64 d] 78) := by
  by_cases h1 : b = d
  · subst h1
    have n1 : (b != b) = false := by simp
    by_cases h2 : a < c
    · have E := Lib.hid (show ltH (a, b) (c, b) = true from decide_eq_true (.inr ⟨rfl, h2⟩))
      go_enter Tryz.func126, Tryz.ntmps126
      go_wp2
      go_ret
      exact ⟨retbb E.out.symm, rfl⟩
    · have E := Lib.hid (show ltH (a, b) (c, b) = false from decide_eq_false (by simp; omega))
      go_enter Tryz.func126, Tryz.ntmps126
      go_wp2
      go_ret
      exact ⟨retbb E.out.symm, rfl⟩
  · have n1 : (b != d) = true := by simpa using h1
    by_cases h2 : b < d
    · have E := Lib.hid (show ltH (a, b) (c, d) = true from decide_eq_true (.inl h2))
      go_enter Tryz.func126, Tryz.ntmps126
      go_wp2
      go_ret
      exact ⟨retbb E.out.symm, rfl⟩
    · have E := Lib.hid (show ltH (a, b) (c, d) = false from decide_eq_false (by simp; omega))
      go_enter Tryz.func126, Tryz.ntmps126
      go_wp2
      go_ret
      exact ⟨retbb E.out.symm, rfl⟩
theorem grow4 (w : World) (o1 o2 o3 o4 : Obj) : ∃ os, (((w.alloc o1).alloc o2).alloc o3).alloc o4 = grow (w.drewN 0) os :=
  ⟨_, by rw [alloc_eq_grow, alloc_eq_grow, alloc_eq_grow, alloc_eq_grow, grow_grow, grow_grow, grow_grow]; rfl⟩
theorem grow6 (w : World) (o1 o2 o3 o4 o5 o6 : Obj) : ∃ os, (((((w.alloc o1).alloc o2).alloc o3).alloc o4).alloc o5).alloc o6 = grow (w.drewN 0) os :=
  ⟨_, by rw [alloc_eq_grow, alloc_eq_grow, alloc_eq_grow, alloc_eq_grow, alloc_eq_grow, alloc_eq_grow, grow_grow, grow_grow, grow_grow, grow_grow, grow_grow]; rfl⟩
def CmpYes (r : Int) (w : World) (e : Ending) (w' : World) : Prop := e = .returned (.int .i64 r) ∧ ∃ q os', w' = grow (w.drewN q) os'
set_option maxHeartbeats 1000000 in
theorem cmp_any (a b c d : Int) (w : World) :
    Calls Tryz.prog 131 #[.agg #[.int .u64 a, .int .i64 b], .agg #[.int .u64 c, .int .i64 d]] w (CmpYes (cfH (a, b) (c, d)) w) := by
  have H1 := Lib.hid (less_any a b c d)
  have H2 := Lib.hid (less_any c d a b)
  cases h1 : ltH (a, b) (c, d) with
  | true =>
    have E := Lib.hid (show cfH (a, b) (c, d) = -1 by unfold cfH; rw [h1]; rfl)
    rw [h1] at H1
    clear h1
    go_enter Tryz.func131, Tryz.ntmps131
    go_wp2_with fail
    refine (H1.out _).mono ?_
    rintro e w' ⟨rfl, rfl⟩
    go_wp2
    go_ret
    exact ⟨by rw [E.out]; rfl, 0, grow4 _ _ _ _ _⟩
  | false =>
    rw [h1] at H1
    cases h2 : ltH (c, d) (a, b) with
    | true =>
      have E := Lib.hid (show cfH (a, b) (c, d) = 1 by unfold cfH; rw [h1, h2]; rfl)
      rw [h2] at H2
      clear h1 h2
      go_enter Tryz.func131, Tryz.ntmps131
      go_wp2_with fail
      refine (H1.out _).mono ?_
      rintro e w' ⟨rfl, rfl⟩
      go_wp2_with fail
      refine (H2.out _).mono ?_
      rintro e w' ⟨rfl, rfl⟩
      go_wp2
      go_ret
      exact ⟨by rw [E.out]; rfl, 0, grow6 _ _ _ _ _ _ _⟩
    | false =>
      have E := Lib.hid (show cfH (a, b) (c, d) = 0 by unfold cfH; rw [h1, h2]; rfl)
      rw [h2] at H2
      clear h1 h2
      go_enter Tryz.func131, Tryz.ntmps131
      go_wp2_with fail
      refine (H1.out _).mono ?_
      rintro e w' ⟨rfl, rfl⟩
      go_wp2_with fail
      refine (H2.out _).mono ?_
      rintro e w' ⟨rfl, rfl⟩
      go_wp2
      go_ret
      exact ⟨by rw [E.out]; rfl, 0, grow6 _ _ _ _ _ _ _⟩
theorem cmpLaysH (blk off size : Nat) (w : World) : CmpLays Tryz.prog 131 #[] encH 2 cfH blk off size w := fun _ _ _ _ x y => cmp_any x.1 x.2 y.1 y.2 _
theorem eg36 : ∀ args w, (callFunc 131 args).run Tryz.prog w = .ok (.enter 131 args) w := Tryz.call131
end Go.Proofs.YtkmngbkghgelfaaGreat
/- The walks of the library's merge by halves (symMerge): one element on either side. -/
namespace Go.Proofs.YtkmngbkghgelfaaGreat
open Go.Shelf Go.RowKit Go.Lib Go.Sort
set_option linter.unusedVariables false
variable {P : Program} {α : Type} [Inhabited α]
/-- What a merge of the runs [a, m) and [m, b) comes to. -/
def Merged (enc : α → List Value) (k : Nat) (w0 : World) (blk off : Nat) (lt : α → α → Bool) (d : Array α) (a b : Nat) (e : Ending) (w' : World) : Prop :=
  e = .returned (.tuple #[]) ∧ ∃ d', PermIn a b d d' ∧ SortedIn lt a b d' ∧ SWK enc k w0 blk off d' w'

set_option maxHeartbeats 8000000 in
set_option maxRecDepth 1000000 in
theorem symMerge_a {k : Nat} (L : HitLays P k) (enc : α → List Value) (cf : α → α → Int) (hS : SWO (ltOf cf)) (g : Nat) (cb : Array Value) (eg : ∀ args w, (callFunc g args).run P w = .ok (.enter g args) w) (blk off cap a m b : Nat) (d0 d : Array α) (w0 w : World)
    (hcmp : CmpLays P g cb enc k cf blk off d0.size w0) (R : RowK enc k w0 blk off d0) (hs : d.size = d0.size) (S : SWK enc k w0 blk off d w) (hm : m = a + 1) (hmb : m < b) (hB : SortedIn (ltOf cf) m b d) (hb : b ≤ d.size) (hsz : d.size < 4611686018427387904) :
    Calls P 145 #[.slice (some ⟨blk, off, none⟩) d.size cap, .int .i64 a, .int .i64 m, .int .i64 b, .func (.func g) #[] cb] w (Merged enc k w0 blk off (ltOf cf) d a b) := by
  have mixed := L.mixed; have t0 := L.t0; have a0 := L.a0; have z0 := L.z0; have v0 := L.v0; have t3 := L.t3; have a3 := L.a3; have z3 := L.z3; have v3 := L.v3; have t4 := L.t4; have a4 := L.a4; have z4 := L.z4; have v4 := L.v4; have t29 := L.t29; have a29 := L.a29; have z29 := L.z29; have v29 := L.v29; have t72 := L.t72; have a72 := L.a72; have z72 := L.z72; have v72 := L.v72; have t148 := L.t148; have a148 := L.a148; have z148 := L.z148; have v148 := L.v148; have u29 := run_underlying L.t29; have aE := L.aE; have zE := L.zE
  have HC : Aside _ := hcmp
  have S0 : Aside (SWK enc k w0 blk off d w) := S
  have HD := Lib.hid hs
  clear S hcmp hs
  have HM := Lib.hid hm
  have HB := Lib.hid hB
  have t1 : ((m : Int) - (a : Int) == 1) = true := by simp; omega
  have ham : a + 1 ≤ m := by omega
  have hma : m ≤ a + 1 := by omega
  clear hm hB
  go_enter L.f107, Tryz.ntmps145
  go_wp2
  go_loopg [10, 11] (b - m) (fun gx s10 s11 wr => ∃ i j : Nat, s10 = .int .i64 i ∧ s11 = .int .i64 j ∧ m ≤ i ∧ i ≤ j ∧ j ≤ b ∧ j - i ≤ gx ∧ Aside (SWK enc k w0 blk off d wr) ∧ Hid ((i = m ∨ ltOf cf d[i - 1]! d[a]! = true) ∧ (j = b ∨ ltOf cf d[j]! d[a]! = false)))
  case atStart => exact ⟨m, b, rfl, rfl, by omega, by omega, by omega, by omega, S0, (⟨.inl rfl, .inl rfl⟩ : (m = m ∨ ltOf cf d[m - 1]! d[a]! = true) ∧ (b = b ∨ ltOf cf d[b]! d[a]! = false))⟩
  case round =>
    clear S0
    obtain ⟨i, j, rfl, rfl, hmi, hij, hjb, hgx, S1, HI⟩ := hrel
    by_cases hlt : i < j
    · have hltz : (i : Int) < (j : Int) := by omega
      cases hL : ltOf cf d[(i + j) / 2]! d[a]! with
      | true =>
        have HN : Hid (((i + j) / 2 + 1 = m ∨ ltOf cf d[(i + j) / 2 + 1 - 1]! d[a]! = true) ∧ (j = b ∨ ltOf cf d[j]! d[a]! = false)) := ⟨.inr (by rw [Nat.add_sub_cancel]; exact hL), HI.out.2⟩
        have ex : (((i : Int) + (j : Int)) / 2).toNat = (i + j) / 2 := by omega
        have px : (0 : Int) ≤ ((i : Int) + (j : Int)) / 2 := by omega
        have bx : ((i : Int) + (j : Int)) / 2 < (d.size : Int) := by omega
        have rx : IntKind.i64.wrap (((i : Int) + (j : Int)) / 2) = ((i : Int) + (j : Int)) / 2 := by rw [IntKind.wrap_i64]; omega
        have ev : ((a : Int)).toNat = a := by omega
        have pv : (0 : Int) ≤ (a : Int) := by omega
        have bv : (a : Int) < (d.size : Int) := by omega
        have rv : IntKind.i64.wrap ((a : Int)) = (a : Int) := by rw [IntKind.wrap_i64]; omega
        obtain ⟨x, hx⟩ : ∃ x, x = d[(i + j) / 2]! := ⟨_, rfl⟩
        obtain ⟨y, hy⟩ : ∃ y, y = d[a]! := ⟨_, rfl⟩
        have lx := S1.out.ld R (HD.out) P ((i + j) / 2) (by omega)
        have ly := S1.out.ld R (HD.out) P (a) (by omega)
        rw [← hx] at lx
        rw [← hy] at ly
        have hc := S1.out.cmp HC.out (HD.out) x y
        have hv : cf x y < 0 := by rw [hx, hy]; exact of_decide_eq_true hL
        have hd : decide (cf x y < 0) = true := decide_eq_true hv
        clear hx hy
        go_wp2_with fail
        go_quiet_grown (first | (go_at_fn g; refine Calls.grown_of (hc _ _)))
        have S2 : Aside (SWK enc k w0 blk off d (grow (wr.drewN nq) osq)) := S1.out.grown nq osq
        clear lx ly hc S1
        generalize grow (wr.drewN nq) osq = w2 at S2 ⊢
        clear nq osq ex px bx rx ev pv bv rv hv hd
        go_wp2
        go_roundg (j - ((i + j) / 2 + 1))
        case measure => omega
        case rel => exact ⟨(i + j) / 2 + 1, j, by rw [show ((i : Int) + (j : Int)) / 2 + 1 = (((i + j) / 2 + 1 : Nat) : Int) by omega], rfl, by omega, by omega, by omega, by omega, S2, HN⟩
      | false =>
        have HN : Hid ((i = m ∨ ltOf cf d[i - 1]! d[a]! = true) ∧ ((i + j) / 2 = b ∨ ltOf cf d[(i + j) / 2]! d[a]! = false)) := ⟨HI.out.1, .inr hL⟩
        have ex : (((i : Int) + (j : Int)) / 2).toNat = (i + j) / 2 := by omega
        have px : (0 : Int) ≤ ((i : Int) + (j : Int)) / 2 := by omega
        have bx : ((i : Int) + (j : Int)) / 2 < (d.size : Int) := by omega
        have rx : IntKind.i64.wrap (((i : Int) + (j : Int)) / 2) = ((i : Int) + (j : Int)) / 2 := by rw [IntKind.wrap_i64]; omega
        have ev : ((a : Int)).toNat = a := by omega
        have pv : (0 : Int) ≤ (a : Int) := by omega
        have bv : (a : Int) < (d.size : Int) := by omega
        have rv : IntKind.i64.wrap ((a : Int)) = (a : Int) := by rw [IntKind.wrap_i64]; omega
        obtain ⟨x, hx⟩ : ∃ x, x = d[(i + j) / 2]! := ⟨_, rfl⟩
        obtain ⟨y, hy⟩ : ∃ y, y = d[a]! := ⟨_, rfl⟩
        have lx := S1.out.ld R (HD.out) P ((i + j) / 2) (by omega)
        have ly := S1.out.ld R (HD.out) P (a) (by omega)
        rw [← hx] at lx
        rw [← hy] at ly
        have hc := S1.out.cmp HC.out (HD.out) x y
        have hv : ¬ cf x y < 0 := by rw [hx, hy]; exact of_decide_eq_false hL
        have hd : decide (cf x y < 0) = false := decide_eq_false hv
        clear hx hy
        go_wp2_with fail
        go_quiet_grown (first | (go_at_fn g; refine Calls.grown_of (hc _ _)))
        have S2 : Aside (SWK enc k w0 blk off d (grow (wr.drewN nq) osq)) := S1.out.grown nq osq
        clear lx ly hc S1
        generalize grow (wr.drewN nq) osq = w2 at S2 ⊢
        clear nq osq ex px bx rx ev pv bv rv hv hd
        go_wp2
        go_roundg ((i + j) / 2 - i)
        case measure => omega
        case rel => exact ⟨i, (i + j) / 2, rfl, by rw [show ((i : Int) + (j : Int)) / 2 = (((i + j) / 2 : Nat) : Int) by omega], by omega, by omega, by omega, by omega, S2, HN⟩
    · have hltz : ¬ (i : Int) < (j : Int) := by omega
      obtain rfl : i = j := by omega
      have HF := Lib.hid (fun (r : Array α) (hr : RotR d r a (a + 1) i) => ins_right hS (a := a) (b := b) (i := i) (by omega) hjb (by have := HB.out; rw [HM.out] at this; exact this) (by have := HI.out.1; rw [HM.out] at this; exact this) HI.out.2 hr)
      clear HI
      go_wp2
      go_loopg [13] (i - a) (fun gx s13 wr => ∃ (q : Nat) (dk : Array α), s13 = .int .i64 q ∧ a ≤ q ∧ q + 1 ≤ i ∧ i - q ≤ gx ∧ Aside (SWK enc k w0 blk off dk wr) ∧ Hid (RotR d dk a (a + 1) (q + 1) ∧ PermIn a b d dk ∧ dk.size = d0.size))
      case atStart => exact ⟨a, d, rfl, by omega, by omega, by omega, S1, (⟨RotR.self d a (a + 1) (by omega), permIn_refl _ _ _, HD.out⟩ : RotR d d a (a + 1) (a + 1) ∧ PermIn a b d d ∧ d.size = d0.size)⟩
      case round =>
        clear S1
        obtain ⟨q, dk, rfl, haq, hqi, hgq, S3, HQ⟩ := hrel
        have hdk := HQ.out.2.2
        have hdd := HD.out
        by_cases hq : q + 1 < i
        · have hqz : (q : Int) < (i : Int) - 1 := by omega
          have HN : Hid (RotR d (swp dk q (q + 1)) a (a + 1) (q + 1 + 1) ∧ PermIn a b d (swp dk q (q + 1)) ∧ (swp dk q (q + 1)).size = d0.size) := ⟨HQ.out.1.right haq (by omega), permIn_trans _ _ _ _ _ HQ.out.2.1 (swp_permIn dk a b _ _ (by omega) (by omega) (by omega) (by omega) (by omega)), by rw [size_swp]; exact hdk⟩
          have ex : ((q : Int)).toNat = q := by omega
          have px : (0 : Int) ≤ (q : Int) := by omega
          have bx : (q : Int) < (d.size : Int) := by omega
          have rx : IntKind.i64.wrap ((q : Int)) = (q : Int) := by rw [IntKind.wrap_i64]; omega
          have ez : ((q : Int) + 1).toNat = q + 1 := by omega
          have pz : (0 : Int) ≤ (q : Int) + 1 := by omega
          have bz : (q : Int) + 1 < (d.size : Int) := by omega
          have rz : IntKind.i64.wrap ((q : Int) + 1) = (q : Int) + 1 := by rw [IntKind.wrap_i64]; omega
          have S4 : Aside (SWK enc k w0 blk off (swp dk (q) (q + 1)) ((wr.drew.setCells blk (off + (q) * k) (enc dk[q + 1]!)).setCells blk (off + (q + 1) * k) (enc dk[q]!))) := S3.out.swapped R (q) (q + 1) (by omega) (by omega)
          have la := S3.out.ld1 R (hdk) P (q) (by omega)
          have lb := S3.out.ld1 R (hdk) P (q + 1) (by omega)
          have sa := S3.out.st1 R (hdk) P (q) (by omega) dk[q + 1]!
          have sb := S3.out.st2 R (hdk) P (q) (q + 1) (by omega) (by omega) dk[q + 1]! dk[q]!
          have na : (enc dk[q]!).length = k := R.hk _
          have nb : (enc dk[q + 1]!).length = k := R.hk _
          generalize enc dk[q]! = cI at S4 la sb na
          generalize enc dk[q + 1]! = cJ at S4 lb sa sb nb
          clear S3
          go_wp2_with fail
          go_big_region_o
          clear la lb sa sb
          generalize (wr.drew.setCells blk (off + (q) * k) cJ).setCells blk (off + (q + 1) * k) cI = w4 at S4 ⊢
          clear hdk hdd
          go_wp2
          go_roundg (i - (q + 1))
          case measure => omega
          case rel => exact ⟨q + 1, _, by simp, by omega, by omega, by omega, S4, HN⟩
        · have hqz : ¬ (q : Int) < (i : Int) - 1 := by omega
          clear hdk hdd
          go_wp2
          go_end0
          obtain rfl : i = q + 1 := by omega
          exact ⟨rfl, dk, HQ.out.2.1, HF.out dk HQ.out.1, S3.out⟩

set_option maxHeartbeats 8000000 in
set_option maxRecDepth 1000000 in
theorem symMerge_b {k : Nat} (L : HitLays P k) (enc : α → List Value) (cf : α → α → Int) (hS : SWO (ltOf cf)) (g : Nat) (cb : Array Value) (eg : ∀ args w, (callFunc g args).run P w = .ok (.enter g args) w) (blk off cap a m b : Nat) (d0 d : Array α) (w0 w : World)
    (hcmp : CmpLays P g cb enc k cf blk off d0.size w0) (R : RowK enc k w0 blk off d0) (hs : d.size = d0.size) (S : SWK enc k w0 blk off d w) (hm : m - a ≠ 1) (ham : a < m) (hmb : b = m + 1) (hA : SortedIn (ltOf cf) a m d) (hb : b ≤ d.size) (hsz : d.size < 4611686018427387904) :
    Calls P 145 #[.slice (some ⟨blk, off, none⟩) d.size cap, .int .i64 a, .int .i64 m, .int .i64 b, .func (.func g) #[] cb] w (Merged enc k w0 blk off (ltOf cf) d a b) := by
  have mixed := L.mixed; have t0 := L.t0; have a0 := L.a0; have z0 := L.z0; have v0 := L.v0; have t3 := L.t3; have a3 := L.a3; have z3 := L.z3; have v3 := L.v3; have t4 := L.t4; have a4 := L.a4; have z4 := L.z4; have v4 := L.v4; have t29 := L.t29; have a29 := L.a29; have z29 := L.z29; have v29 := L.v29; have t72 := L.t72; have a72 := L.a72; have z72 := L.z72; have v72 := L.v72; have t148 := L.t148; have a148 := L.a148; have z148 := L.z148; have v148 := L.v148; have u29 := run_underlying L.t29; have aE := L.aE; have zE := L.zE
  have HC : Aside _ := hcmp
  have S0 : Aside (SWK enc k w0 blk off d w) := S
  have HD := Lib.hid hs
  clear S hcmp hs
  have HM := Lib.hid hmb
  have HA := Lib.hid hA
  have t1 : ((m : Int) - (a : Int) == 1) = false := by simp; omega
  have t2 : ((b : Int) - (m : Int) == 1) = true := by simp; omega
  have hbm : b ≤ m + 1 := by omega
  have hmb' : m + 1 ≤ b := by omega
  clear hm hA hmb
  go_enter L.f107, Tryz.ntmps145
  go_wp2
  go_loopg [14, 15] (m - a) (fun gx s10 s11 wr => ∃ i j : Nat, s10 = .int .i64 i ∧ s11 = .int .i64 j ∧ a ≤ i ∧ i ≤ j ∧ j ≤ m ∧ j - i ≤ gx ∧ Aside (SWK enc k w0 blk off d wr) ∧ Hid ((i = a ∨ ltOf cf d[m]! d[i - 1]! = false) ∧ (j = m ∨ ltOf cf d[m]! d[j]! = true)))
  case atStart => exact ⟨a, m, rfl, rfl, by omega, by omega, by omega, by omega, S0, (⟨.inl rfl, .inl rfl⟩ : (a = a ∨ ltOf cf d[m]! d[a - 1]! = false) ∧ (m = m ∨ ltOf cf d[m]! d[m]! = true))⟩
  case round =>
    clear S0
    obtain ⟨i, j, rfl, rfl, hmi, hij, hjb, hgx, S1, HI⟩ := hrel
    by_cases hlt : i < j
    · have hltz : (i : Int) < (j : Int) := by omega
      cases hL : ltOf cf d[m]! d[(i + j) / 2]! with
      | false =>
        have HN : Hid (((i + j) / 2 + 1 = a ∨ ltOf cf d[m]! d[(i + j) / 2 + 1 - 1]! = false) ∧ (j = m ∨ ltOf cf d[m]! d[j]! = true)) := ⟨.inr (by rw [Nat.add_sub_cancel]; exact hL), HI.out.2⟩
        have ex : ((m : Int)).toNat = m := by omega
        have px : (0 : Int) ≤ (m : Int) := by omega
        have bx : (m : Int) < (d.size : Int) := by omega
        have rx : IntKind.i64.wrap ((m : Int)) = (m : Int) := by rw [IntKind.wrap_i64]; omega
        have ev : (((i : Int) + (j : Int)) / 2).toNat = (i + j) / 2 := by omega
        have pv : (0 : Int) ≤ ((i : Int) + (j : Int)) / 2 := by omega
        have bv : ((i : Int) + (j : Int)) / 2 < (d.size : Int) := by omega
        have rv : IntKind.i64.wrap (((i : Int) + (j : Int)) / 2) = ((i : Int) + (j : Int)) / 2 := by rw [IntKind.wrap_i64]; omega
        obtain ⟨x, hx⟩ : ∃ x, x = d[m]! := ⟨_, rfl⟩
        obtain ⟨y, hy⟩ : ∃ y, y = d[(i + j) / 2]! := ⟨_, rfl⟩
        have lx := S1.out.ld R (HD.out) P (m) (by omega)
        have ly := S1.out.ld R (HD.out) P ((i + j) / 2) (by omega)
        rw [← hx] at lx
        rw [← hy] at ly
        have hc := S1.out.cmp HC.out (HD.out) x y
        have hv : ¬ cf x y < 0 := by rw [hx, hy]; exact of_decide_eq_false hL
        have hd : decide (cf x y < 0) = false := decide_eq_false hv
        clear hx hy
        go_wp2_with fail
        go_quiet_grown (first | (go_at_fn g; refine Calls.grown_of (hc _ _)))
        have S2 : Aside (SWK enc k w0 blk off d (grow (wr.drewN nq) osq)) := S1.out.grown nq osq
        clear lx ly hc S1
        generalize grow (wr.drewN nq) osq = w2 at S2 ⊢
        clear nq osq ex px bx rx ev pv bv rv hv hd
        go_wp2
        go_roundg (j - ((i + j) / 2 + 1))
        case measure => omega
        case rel => exact ⟨(i + j) / 2 + 1, j, by rw [show ((i : Int) + (j : Int)) / 2 + 1 = (((i + j) / 2 + 1 : Nat) : Int) by omega], rfl, by omega, by omega, by omega, by omega, S2, HN⟩
      | true =>
        have HN : Hid ((i = a ∨ ltOf cf d[m]! d[i - 1]! = false) ∧ ((i + j) / 2 = m ∨ ltOf cf d[m]! d[(i + j) / 2]! = true)) := ⟨HI.out.1, .inr hL⟩
        have ex : ((m : Int)).toNat = m := by omega
        have px : (0 : Int) ≤ (m : Int) := by omega
        have bx : (m : Int) < (d.size : Int) := by omega
        have rx : IntKind.i64.wrap ((m : Int)) = (m : Int) := by rw [IntKind.wrap_i64]; omega
        have ev : (((i : Int) + (j : Int)) / 2).toNat = (i + j) / 2 := by omega
        have pv : (0 : Int) ≤ ((i : Int) + (j : Int)) / 2 := by omega
        have bv : ((i : Int) + (j : Int)) / 2 < (d.size : Int) := by omega
        have rv : IntKind.i64.wrap (((i : Int) + (j : Int)) / 2) = ((i : Int) + (j : Int)) / 2 := by rw [IntKind.wrap_i64]; omega
        obtain ⟨x, hx⟩ : ∃ x, x = d[m]! := ⟨_, rfl⟩
        obtain ⟨y, hy⟩ : ∃ y, y = d[(i + j) / 2]! := ⟨_, rfl⟩
        have lx := S1.out.ld R (HD.out) P (m) (by omega)
        have ly := S1.out.ld R (HD.out) P ((i + j) / 2) (by omega)
        rw [← hx] at lx
        rw [← hy] at ly
        have hc := S1.out.cmp HC.out (HD.out) x y
        have hv : cf x y < 0 := by rw [hx, hy]; exact of_decide_eq_true hL
        have hd : decide (cf x y < 0) = true := decide_eq_true hv
        clear hx hy
        go_wp2_with fail
        go_quiet_grown (first | (go_at_fn g; refine Calls.grown_of (hc _ _)))
        have S2 : Aside (SWK enc k w0 blk off d (grow (wr.drewN nq) osq)) := S1.out.grown nq osq
        clear lx ly hc S1
        generalize grow (wr.drewN nq) osq = w2 at S2 ⊢
        clear nq osq ex px bx rx ev pv bv rv hv hd
        go_wp2
        go_roundg ((i + j) / 2 - i)
        case measure => omega
        case rel => exact ⟨i, (i + j) / 2, rfl, by rw [show ((i : Int) + (j : Int)) / 2 = (((i + j) / 2 : Nat) : Int) by omega], by omega, by omega, by omega, by omega, S2, HN⟩
    · have hltz : ¬ (i : Int) < (j : Int) := by omega
      obtain rfl : i = j := by omega
      have HF := Lib.hid (fun (r : Array α) (hr : RotR d r i m (m + 1)) => ins_left hS (a := a) (i := i) hmi hjb HA.out HI.out.1 HI.out.2 hr)
      clear HI
      go_wp2
      go_loopg [17] (m - i) (fun gx s13 wr => ∃ (q : Nat) (dk : Array α), s13 = .int .i64 q ∧ i ≤ q ∧ q ≤ m ∧ q - i ≤ gx ∧ Aside (SWK enc k w0 blk off dk wr) ∧ Hid (RotR d dk q m (m + 1) ∧ PermIn a b d dk ∧ dk.size = d0.size))
      case atStart => exact ⟨m, d, rfl, by omega, by omega, by omega, S1, (⟨RotR.self' d m (m + 1) (by omega), permIn_refl _ _ _, HD.out⟩ : RotR d d m m (m + 1) ∧ PermIn a b d d ∧ d.size = d0.size)⟩
      case round =>
        clear S1
        obtain ⟨q0, dk, rfl, haq, hqi, hgq, S3, HQ⟩ := hrel
        have hdk := HQ.out.2.2
        have hdd := HD.out
        by_cases hq : i < q0
        · obtain ⟨q, rfl⟩ : ∃ q, q0 = q + 1 := ⟨q0 - 1, by omega⟩
          have hqz : (i : Int) < (q : Int) + 1 := by omega
          have HN : Hid (RotR d (swp dk (q + 1) q) q m (m + 1) ∧ PermIn a b d (swp dk (q + 1) q) ∧ (swp dk (q + 1) q).size = d0.size) := ⟨HQ.out.1.left (by omega) (by omega), permIn_trans _ _ _ _ _ HQ.out.2.1 (swp_permIn dk a b _ _ (by omega) (by omega) (by omega) (by omega) (by omega)), by rw [size_swp]; exact hdk⟩
          have ex : ((q : Int) + 1).toNat = q + 1 := by omega
          have px : (0 : Int) ≤ (q : Int) + 1 := by omega
          have bx : (q : Int) + 1 < (d.size : Int) := by omega
          have rx : IntKind.i64.wrap ((q : Int) + 1) = (q : Int) + 1 := by rw [IntKind.wrap_i64]; omega
          have ez : ((q : Int)).toNat = q := by omega
          have pz : (0 : Int) ≤ (q : Int) := by omega
          have bz : (q : Int) < (d.size : Int) := by omega
          have rz : IntKind.i64.wrap ((q : Int)) = (q : Int) := by rw [IntKind.wrap_i64]; omega
          have S4 : Aside (SWK enc k w0 blk off (swp dk (q + 1) (q)) ((wr.drew.setCells blk (off + (q + 1) * k) (enc dk[q]!)).setCells blk (off + (q) * k) (enc dk[q + 1]!))) := S3.out.swapped R (q + 1) (q) (by omega) (by omega)
          have la := S3.out.ld1 R (hdk) P (q + 1) (by omega)
          have lb := S3.out.ld1 R (hdk) P (q) (by omega)
          have sa := S3.out.st1 R (hdk) P (q + 1) (by omega) dk[q]!
          have sb := S3.out.st2 R (hdk) P (q + 1) (q) (by omega) (by omega) dk[q]! dk[q + 1]!
          have na : (enc dk[q + 1]!).length = k := R.hk _
          have nb : (enc dk[q]!).length = k := R.hk _
          generalize enc dk[q + 1]! = cI at S4 la sb na
          generalize enc dk[q]! = cJ at S4 lb sa sb nb
          clear S3
          go_wp2_with fail
          go_big_region_o
          clear la lb sa sb
          generalize (wr.drew.setCells blk (off + (q + 1) * k) cJ).setCells blk (off + (q) * k) cI = w4 at S4 ⊢
          clear hdk hdd
          go_wp2
          go_roundg (q - i)
          case measure => omega
          case rel => exact ⟨q, _, by first | rfl | simp | go_num, by omega, by omega, by omega, S4, HN⟩
        · have hqz : ¬ (i : Int) < (q0 : Int) := by omega
          clear hdk hdd
          go_wp2
          go_end0
          obtain rfl : i = q0 := by omega
          exact ⟨rfl, dk, HQ.out.2.1, by have := HF.out dk HQ.out.1; rw [HM.out]; exact this, S3.out⟩
end Go.Proofs.YtkmngbkghgelfaaGreat
/- The walks of the library's merge by halves (symMerge): two elements or more on both sides, and all of it. -/
namespace Go.Proofs.YtkmngbkghgelfaaGreat
open Go.Shelf Go.RowKit Go.Lib Go.Sort
set_option linter.unusedVariables false
variable {P : Program} {α : Type} [Inhabited α]
theorem pick_run {lt : α → α → Bool} {a s M : Nat} {d : Array α} (h : s = a ∨ s = M) (h1 : SortedIn lt a s d) (h2 : SortedIn lt s M d) : SortedIn lt a M d := by
  rcases h with h | h
  · rw [h] at h2; exact h2
  · rw [h] at h1; exact h1
theorem rot_none {s m E : Nat} (d : Array α) (h : s = m ∨ E = m) (h1 : s ≤ m) (h2 : m ≤ E) : RotR d d s m E := by
  rcases h with h | h
  · rw [h]; exact RotR.self' d m E h2
  · rw [h]; exact RotR.self d s m h1
theorem SortedIn.congrB {lt : α → α → Bool} {a b : Nat} {d d' : Array α} (hs : SortedIn lt a b d) (h : ∀ i, a ≤ i → i < b → d'[i]! = d[i]!) : SortedIn lt a b d' := fun i j hi hij hj => by
  rw [h i hi (by omega), h j (by omega) hj]; exact hs i j hi hij hj

set_option maxHeartbeats 8000000 in
set_option maxRecDepth 1000000 in
theorem symMerge_c {k : Nat} (L : HitLays P k) (enc : α → List Value) (cf : α → α → Int) (hS : SWO (ltOf cf)) (g : Nat) (cb : Array Value) (eg : ∀ args w, (callFunc g args).run P w = .ok (.enter g args) w) (blk off cap a m b : Nat) (d0 d : Array α) (w0 w : World)
    (hcmp : CmpLays P g cb enc k cf blk off d0.size w0) (R : RowK enc k w0 blk off d0) (hs : d.size = d0.size) (S : SWK enc k w0 blk off d w) (ham : a + 2 ≤ m) (hmb : m + 2 ≤ b) (hA : SortedIn (ltOf cf) a m d) (hB : SortedIn (ltOf cf) m b d)
    (ih : ∀ (a' m' b' : Nat) (dk : Array α) (wr : World), b' - a' < b - a → dk.size = d.size → SWK enc k w0 blk off dk wr → a' < m' → m' < b' → b' ≤ d.size → SortedIn (ltOf cf) a' m' dk → SortedIn (ltOf cf) m' b' dk → Calls P 145 #[.slice (some ⟨blk, off, none⟩) d.size cap, .int .i64 a', .int .i64 m', .int .i64 b', .func (.func g) #[] cb] wr (Merged enc k w0 blk off (ltOf cf) dk a' b')) (hb : b ≤ d.size) (hsz : d.size < 4611686018427387904) :
    Calls P 145 #[.slice (some ⟨blk, off, none⟩) d.size cap, .int .i64 a, .int .i64 m, .int .i64 b, .func (.func g) #[] cb] w (Merged enc k w0 blk off (ltOf cf) d a b) := by
  have mixed := L.mixed; have t0 := L.t0; have a0 := L.a0; have z0 := L.z0; have v0 := L.v0; have t3 := L.t3; have a3 := L.a3; have z3 := L.z3; have v3 := L.v3; have t4 := L.t4; have a4 := L.a4; have z4 := L.z4; have v4 := L.v4; have t29 := L.t29; have a29 := L.a29; have z29 := L.z29; have v29 := L.v29; have t72 := L.t72; have a72 := L.a72; have z72 := L.z72; have v72 := L.v72; have t148 := L.t148; have a148 := L.a148; have z148 := L.z148; have v148 := L.v148; have u29 := run_underlying L.t29; have aE := L.aE; have zE := L.zE
  have HC : Aside _ := hcmp
  have S0 : Aside (SWK enc k w0 blk off d w) := S
  have HD := Lib.hid hs
  clear S hcmp hs
  have IH : Aside _ := ih
  have HA := Lib.hid hA
  have HB := Lib.hid hB
  have c107 := L.c107
  have c108 := L.c108
  have t1 : ((m : Int) - (a : Int) == 1) = false := by simp; omega
  have t2 : ((b : Int) - (m : Int) == 1) = false := by simp; omega
  obtain ⟨M, hM⟩ : ∃ M, (a + b) / 2 = M := ⟨_, rfl⟩
  have hM1 : 2 * M ≤ a + b := by omega
  have hM2 : a + b < 2 * M + 2 := by omega
  have hMz : ((a : Int) + (b : Int)) / 2 = (M : Int) := by omega
  obtain ⟨Z, hZ⟩ : ∃ Z, Z + 1 = M + m := ⟨M + m - 1, by omega⟩
  have hZz : (M : Int) + (m : Int) - 1 = (Z : Int) := by omega
  have hZ1 : Z + 1 ≤ M + m := by omega
  have hZ2 : M + m ≤ Z + 1 := by omega
  clear hA hB ih hM hZ
  by_cases hgt : M < m
  · have hgz : (M : Int) < (m : Int) := by omega
    go_enter L.f107, Tryz.ntmps145
    go_wp2
    clear hMz hZz t1 t2
    go_loopg [20, 21] (M - (M + m - b)) (fun gx s20 s21 wr => ∃ s r : Nat, s20 = .int .i64 s ∧ s21 = .int .i64 r ∧ M + m - b ≤ s ∧ s ≤ r ∧ r ≤ M ∧ r - s ≤ gx ∧ Aside (SWK enc k w0 blk off d wr) ∧ Hid ((s = M + m - b ∨ ltOf cf d[Z - (s - 1)]! d[s - 1]! = false) ∧ (r = M ∨ ltOf cf d[Z - r]! d[r]! = true)))
    case atStart => exact ⟨M + m - b, M, by rw [show (M : Int) + (m : Int) - (b : Int) = ((M + m - b : Nat) : Int) by omega], rfl, by omega, by omega, by omega, by omega, S0, (⟨.inl rfl, .inl rfl⟩ : (M + m - b = M + m - b ∨ ltOf cf d[Z - (M + m - b - 1)]! d[M + m - b - 1]! = false) ∧ (M = M ∨ ltOf cf d[Z - M]! d[M]! = true))⟩
    case round =>
      clear S0
      obtain ⟨s, r, rfl, rfl, hs1, hsr, hr1, hgx, S1, HI⟩ := hrel
      by_cases hlt : s < r
      · have hltz : (s : Int) < (r : Int) := by omega
        obtain ⟨c, hc⟩ : ∃ c, (s + r) / 2 = c := ⟨_, rfl⟩
        have hc1 : s ≤ c := by omega
        have hc2 : c < r := by omega
        have hcz : ((s : Int) + (r : Int)) / 2 = (c : Int) := by omega
        obtain ⟨Y, hY⟩ : ∃ Y, Z - c = Y := ⟨_, rfl⟩
        have hYz : (Z : Int) - (c : Int) = (Y : Int) := by omega
        have HYY := Lib.hid hY
        have hY1 : m ≤ Y := by omega
        have hY2 : Y < b := by omega
        clear hc hY
        cases hL : ltOf cf d[Y]! d[c]! with
        | false =>
          have HN : Hid ((c + 1 = M + m - b ∨ ltOf cf d[Z - (c + 1 - 1)]! d[c + 1 - 1]! = false) ∧ (r = M ∨ ltOf cf d[Z - r]! d[r]! = true)) := ⟨.inr (by rw [Nat.add_sub_cancel, HYY.out]; exact hL), HI.out.2⟩
          have ex : ((Y : Int)).toNat = Y := by omega
          have px : (0 : Int) ≤ (Y : Int) := by omega
          have bx : (Y : Int) < (d.size : Int) := by omega
          have rx : IntKind.i64.wrap ((Y : Int)) = (Y : Int) := by rw [IntKind.wrap_i64]; omega
          have ev : ((c : Int)).toNat = c := by omega
          have pv : (0 : Int) ≤ (c : Int) := by omega
          have bv : (c : Int) < (d.size : Int) := by omega
          have rv : IntKind.i64.wrap ((c : Int)) = (c : Int) := by rw [IntKind.wrap_i64]; omega
          obtain ⟨x, hx⟩ : ∃ x, x = d[Y]! := ⟨_, rfl⟩
          obtain ⟨y, hy⟩ : ∃ y, y = d[c]! := ⟨_, rfl⟩
          have lx := S1.out.ld R (HD.out) P (Y) (by omega)
          have ly := S1.out.ld R (HD.out) P (c) (by omega)
          rw [← hx] at lx
          rw [← hy] at ly
          have hc := S1.out.cmp HC.out (HD.out) x y
          have hv : ¬ cf x y < 0 := by rw [hx, hy]; exact of_decide_eq_false hL
          have hd : decide (cf x y < 0) = false := decide_eq_false hv
          clear hx hy
          go_wp2_with fail
          go_quiet_grown (first | (go_at_fn g; refine Calls.grown_of (hc _ _)))
          have S2 : Aside (SWK enc k w0 blk off d (grow (wr.drewN nq) osq)) := S1.out.grown nq osq
          clear lx ly hc S1
          generalize grow (wr.drewN nq) osq = w2 at S2 ⊢
          clear nq osq ex px bx rx ev pv bv rv hv hd
          clear hcz hYz
          go_wp2
          go_roundg (r - (c + 1))
          case measure => omega
          case rel => exact ⟨c + 1, r, by go_num, rfl, by omega, by omega, by omega, by omega, S2, HN⟩
        | true =>
          have HN : Hid ((s = M + m - b ∨ ltOf cf d[Z - (s - 1)]! d[s - 1]! = false) ∧ (c = M ∨ ltOf cf d[Z - c]! d[c]! = true)) := ⟨HI.out.1, .inr (by rw [HYY.out]; exact hL)⟩
          have ex : ((Y : Int)).toNat = Y := by omega
          have px : (0 : Int) ≤ (Y : Int) := by omega
          have bx : (Y : Int) < (d.size : Int) := by omega
          have rx : IntKind.i64.wrap ((Y : Int)) = (Y : Int) := by rw [IntKind.wrap_i64]; omega
          have ev : ((c : Int)).toNat = c := by omega
          have pv : (0 : Int) ≤ (c : Int) := by omega
          have bv : (c : Int) < (d.size : Int) := by omega
          have rv : IntKind.i64.wrap ((c : Int)) = (c : Int) := by rw [IntKind.wrap_i64]; omega
          obtain ⟨x, hx⟩ : ∃ x, x = d[Y]! := ⟨_, rfl⟩
          obtain ⟨y, hy⟩ : ∃ y, y = d[c]! := ⟨_, rfl⟩
          have lx := S1.out.ld R (HD.out) P (Y) (by omega)
          have ly := S1.out.ld R (HD.out) P (c) (by omega)
          rw [← hx] at lx
          rw [← hy] at ly
          have hc := S1.out.cmp HC.out (HD.out) x y
          have hv : cf x y < 0 := by rw [hx, hy]; exact of_decide_eq_true hL
          have hd : decide (cf x y < 0) = true := decide_eq_true hv
          clear hx hy
          go_wp2_with fail
          go_quiet_grown (first | (go_at_fn g; refine Calls.grown_of (hc _ _)))
          have S2 : Aside (SWK enc k w0 blk off d (grow (wr.drewN nq) osq)) := S1.out.grown nq osq
          clear lx ly hc S1
          generalize grow (wr.drewN nq) osq = w2 at S2 ⊢
          clear nq osq ex px bx rx ev pv bv rv hv hd
          clear hcz hYz
          go_wp2
          go_roundg (c - s)
          case measure => omega
          case rel => exact ⟨s, c, rfl, rfl, by omega, by omega, by omega, by omega, S2, HN⟩
      · have hltz : ¬ (s : Int) < (r : Int) := by omega
        obtain rfl : s = r := by omega
        obtain ⟨E, hE⟩ : ∃ E, E + s = M + m := ⟨M + m - s, by omega⟩
        have EE := Lib.hid (show (M : Int) + (m : Int) - (s : Int) = (E : Int) by omega)
        have HE : Hid ((s = a ∨ E = b ∨ ltOf cf d[E]! d[s - 1]! = false) ∧ (s = m ∨ E = m ∨ ltOf cf d[E - 1]! d[s]! = true)) := by
          have e2 : Z - s = E - 1 := by omega
          have := HI.out
          rw [e2] at this
          refine ⟨?_, ?_⟩
          · rcases this.1 with h | h
            · omega
            · rcases Nat.eq_zero_or_pos s with h0 | h0
              · exact .inl (by omega)
              · rw [show Z - (s - 1) = E by omega] at h
                exact .inr (.inr h)
          · rcases this.2 with h | h
            · omega
            · exact .inr (.inr h)
        have h1E : E + s ≤ M + m := by omega
        have h2E : M + m ≤ E + s := by omega
        clear HI hE
        have eez : (M : Int) + (m : Int) - (s : Int) = (E : Int) := EE.out
        by_cases c5 : s < m ∧ m < E
        · have k5 : (s : Int) < (m : Int) := by omega
          have k6 : (m : Int) < (E : Int) := by omega
          have H1 := rotate_any L enc (.func (.func g) #[] cb) blk off cap s m E d0 d w0 wr R HD.out S1.out (by omega) (by omega) (by omega) hsz
          have HC1 := Lib.hid H1
          clear H1 S1
          go_wp2_with fail
          refine HC1.out.mono ?_
          rintro e w7 ⟨rfl, d1, hr1, hp1, hs1⟩
          have SU : Aside (SWK enc k w0 blk off d1 w7) := hs1
          have HR : Hid (RotR d d1 s m E ∧ PermIn a b d d1 ∧ d1.size = d.size) := ⟨hr1, permIn_mono _ _ _ _ _ _ (by omega) (by omega) (by omega) hp1, hp1.1⟩
          clear hr1 hp1 hs1 HC1
          have HX : Hid (SortedIn (ltOf cf) a s d1 ∧ SortedIn (ltOf cf) s M d1 ∧ SortedIn (ltOf cf) M E d1 ∧ SortedIn (ltOf cf) E b d1 ∧ ∀ x y, a ≤ x → x < M → M ≤ y → y < b → ltOf cf d1[y]! d1[x]! = false) := by
            have := halves hS (a := a) (m := m) (b := b) (s := s) (e := E) (by omega) (by omega) (by omega) (by omega) HA.out HB.out HE.out.1 HE.out.2 HR.out.1
            rw [show s + (E - m) = M by omega] at this
            exact this
          by_cases c1 : a < s ∧ s < M
          · have k1 : (a : Int) < (s : Int) := by omega
            have k2 : (s : Int) < (M : Int) := by omega
            have H2 := IH.out a s M d1 w7 (by omega) (HR.out.2.2) (SU.out) (by omega) (by omega) (by omega) HX.out.1 (by have := HX.out.2.1; exact this)
            have HC2 := Lib.hid H2
            clear H2 SU
            go_wp2_with fail
            refine HC2.out.mono ?_
            rintro e w8 ⟨rfl, d2, hp2, ho2, hs2⟩
            have SV : Aside (SWK enc k w0 blk off d2 w8) := hs2
            have HP2 : Hid (PermIn a b d d2 ∧ SortedIn (ltOf cf) a M d2 ∧ d2.size = d.size) := ⟨permIn_trans _ _ _ _ _ HR.out.2.1 (permIn_mono _ _ _ _ _ _ (by omega) (by omega) (by have := HR.out.2.2; omega) hp2), ho2, hp2.1.trans HR.out.2.2⟩
            have HX2 : Hid (SortedIn (ltOf cf) M E d2 ∧ SortedIn (ltOf cf) E b d2 ∧ True ∧ ∀ x y, a ≤ x → x < M → M ≤ y → y < b → ltOf cf d2[y]! d2[x]! = false) := ⟨SortedIn.congrB HX.out.2.2.1 (fun i h1 h2 => hp2.2.1 i (.inr h1)), SortedIn.congrB HX.out.2.2.2.1 (fun i h1 h2 => hp2.2.1 i (.inr (by omega))), trivial, cross_perm (by have := HR.out.2.2; omega) (by omega) HX.out.2.2.2.2 hp2⟩
            clear hp2 ho2 hs2 HC2 HR HX
            by_cases c3 : M < E ∧ E < b
            · have k3 : (M : Int) < (E : Int) := by omega
              have k4 : (E : Int) < (b : Int) := by omega
              have H3 := IH.out M E b d2 w8 (by omega) (HP2.out.2.2) (SV.out) (by omega) (by omega) (by omega) HX2.out.1 HX2.out.2.1
              have HC3 := Lib.hid H3
              clear H3 SV
              go_wp2_with fail
              all_goals
                refine HC3.out.mono ?_
                rintro e w9 ⟨rfl, d3, hp3, ho3, hs3⟩
                go_wp2
                go_end0
                exact ⟨rfl, d3, permIn_trans _ _ _ _ _ HP2.out.1 (permIn_mono _ _ _ _ _ _ (by omega) (by omega) (by have := HP2.out.2.2; omega) hp3), glue (SortedIn.congrB HP2.out.2.1 (fun i h1 h2 => hp3.2.1 i (.inl h2))) ho3 (cross_perm' (by have := HP2.out.2.2; omega) HX2.out.2.2.2 hp3), hs3⟩
            · by_cases c4 : M < E
              · have k3 : (M : Int) < (E : Int) := by omega
                have k4 : ¬ (E : Int) < (b : Int) := by omega
                go_wp2
                all_goals
                  go_end0
                  exact ⟨rfl, d2, HP2.out.1, glue HP2.out.2.1 (pick_run (show E = M ∨ E = b by omega) HX2.out.1 HX2.out.2.1) HX2.out.2.2.2, SV.out⟩
              · have k3 : ¬ (M : Int) < (E : Int) := by omega
                go_wp2
                all_goals
                  go_end0
                  exact ⟨rfl, d2, HP2.out.1, glue HP2.out.2.1 (pick_run (show E = M ∨ E = b by omega) HX2.out.1 HX2.out.2.1) HX2.out.2.2.2, SV.out⟩
          · by_cases c2 : a < s
            · have k1 : (a : Int) < (s : Int) := by omega
              have k2 : ¬ (s : Int) < (M : Int) := by omega
              have SV : Aside (SWK enc k w0 blk off d1 w7) := SU
              obtain ⟨d2, hd2⟩ : ∃ d2, d2 = d1 := ⟨_, rfl⟩
              have HP2 : Hid (PermIn a b d d2 ∧ SortedIn (ltOf cf) a M d2 ∧ d2.size = d.size) := by
                rw [hd2]
                exact ⟨HR.out.2.1, pick_run (show s = a ∨ s = M by omega) HX.out.1 HX.out.2.1, HR.out.2.2⟩
              have HX2 : Hid (SortedIn (ltOf cf) M E d2 ∧ SortedIn (ltOf cf) E b d2 ∧ True ∧ ∀ x y, a ≤ x → x < M → M ≤ y → y < b → ltOf cf d2[y]! d2[x]! = false) := by
                rw [hd2]
                exact ⟨HX.out.2.2.1, HX.out.2.2.2.1, trivial, HX.out.2.2.2.2⟩
              rw [← hd2] at SV
              clear hd2 SU HR HX
              by_cases c3 : M < E ∧ E < b
              · have k3 : (M : Int) < (E : Int) := by omega
                have k4 : (E : Int) < (b : Int) := by omega
                have H3 := IH.out M E b d2 w7 (by omega) (HP2.out.2.2) (SV.out) (by omega) (by omega) (by omega) HX2.out.1 HX2.out.2.1
                have HC3 := Lib.hid H3
                clear H3 SV
                go_wp2_with fail
                all_goals
                  refine HC3.out.mono ?_
                  rintro e w9 ⟨rfl, d3, hp3, ho3, hs3⟩
                  go_wp2
                  go_end0
                  exact ⟨rfl, d3, permIn_trans _ _ _ _ _ HP2.out.1 (permIn_mono _ _ _ _ _ _ (by omega) (by omega) (by have := HP2.out.2.2; omega) hp3), glue (SortedIn.congrB HP2.out.2.1 (fun i h1 h2 => hp3.2.1 i (.inl h2))) ho3 (cross_perm' (by have := HP2.out.2.2; omega) HX2.out.2.2.2 hp3), hs3⟩
              · by_cases c4 : M < E
                · have k3 : (M : Int) < (E : Int) := by omega
                  have k4 : ¬ (E : Int) < (b : Int) := by omega
                  go_wp2
                  all_goals
                    go_end0
                    exact ⟨rfl, d2, HP2.out.1, glue HP2.out.2.1 (pick_run (show E = M ∨ E = b by omega) HX2.out.1 HX2.out.2.1) HX2.out.2.2.2, SV.out⟩
                · have k3 : ¬ (M : Int) < (E : Int) := by omega
                  go_wp2
                  all_goals
                    go_end0
                    exact ⟨rfl, d2, HP2.out.1, glue HP2.out.2.1 (pick_run (show E = M ∨ E = b by omega) HX2.out.1 HX2.out.2.1) HX2.out.2.2.2, SV.out⟩
            · have k1 : ¬ (a : Int) < (s : Int) := by omega
              have SV : Aside (SWK enc k w0 blk off d1 w7) := SU
              obtain ⟨d2, hd2⟩ : ∃ d2, d2 = d1 := ⟨_, rfl⟩
              have HP2 : Hid (PermIn a b d d2 ∧ SortedIn (ltOf cf) a M d2 ∧ d2.size = d.size) := by
                rw [hd2]
                exact ⟨HR.out.2.1, pick_run (show s = a ∨ s = M by omega) HX.out.1 HX.out.2.1, HR.out.2.2⟩
              have HX2 : Hid (SortedIn (ltOf cf) M E d2 ∧ SortedIn (ltOf cf) E b d2 ∧ True ∧ ∀ x y, a ≤ x → x < M → M ≤ y → y < b → ltOf cf d2[y]! d2[x]! = false) := by
                rw [hd2]
                exact ⟨HX.out.2.2.1, HX.out.2.2.2.1, trivial, HX.out.2.2.2.2⟩
              rw [← hd2] at SV
              clear hd2 SU HR HX
              by_cases c3 : M < E ∧ E < b
              · have k3 : (M : Int) < (E : Int) := by omega
                have k4 : (E : Int) < (b : Int) := by omega
                have H3 := IH.out M E b d2 w7 (by omega) (HP2.out.2.2) (SV.out) (by omega) (by omega) (by omega) HX2.out.1 HX2.out.2.1
                have HC3 := Lib.hid H3
                clear H3 SV
                go_wp2_with fail
                all_goals
                  refine HC3.out.mono ?_
                  rintro e w9 ⟨rfl, d3, hp3, ho3, hs3⟩
                  go_wp2
                  go_end0
                  exact ⟨rfl, d3, permIn_trans _ _ _ _ _ HP2.out.1 (permIn_mono _ _ _ _ _ _ (by omega) (by omega) (by have := HP2.out.2.2; omega) hp3), glue (SortedIn.congrB HP2.out.2.1 (fun i h1 h2 => hp3.2.1 i (.inl h2))) ho3 (cross_perm' (by have := HP2.out.2.2; omega) HX2.out.2.2.2 hp3), hs3⟩
              · by_cases c4 : M < E
                · have k3 : (M : Int) < (E : Int) := by omega
                  have k4 : ¬ (E : Int) < (b : Int) := by omega
                  go_wp2
                  all_goals
                    go_end0
                    exact ⟨rfl, d2, HP2.out.1, glue HP2.out.2.1 (pick_run (show E = M ∨ E = b by omega) HX2.out.1 HX2.out.2.1) HX2.out.2.2.2, SV.out⟩
                · have k3 : ¬ (M : Int) < (E : Int) := by omega
                  go_wp2
                  all_goals
                    go_end0
                    exact ⟨rfl, d2, HP2.out.1, glue HP2.out.2.1 (pick_run (show E = M ∨ E = b by omega) HX2.out.1 HX2.out.2.1) HX2.out.2.2.2, SV.out⟩
        · by_cases c6 : s < m
          · have k5 : (s : Int) < (m : Int) := by omega
            have k6 : ¬ (m : Int) < (E : Int) := by omega
            obtain ⟨d1, hd1⟩ : ∃ d1, d1 = d := ⟨_, rfl⟩
            have SU : Aside (SWK enc k w0 blk off d1 wr) := by rw [hd1]; exact S1
            have HR : Hid (RotR d d1 s m E ∧ PermIn a b d d1 ∧ d1.size = d.size) := by
              rw [hd1]
              exact ⟨rot_none d (show s = m ∨ E = m by omega) (by omega) (by omega), permIn_refl _ _ _, rfl⟩
            clear hd1 S1
            have HX : Hid (SortedIn (ltOf cf) a s d1 ∧ SortedIn (ltOf cf) s M d1 ∧ SortedIn (ltOf cf) M E d1 ∧ SortedIn (ltOf cf) E b d1 ∧ ∀ x y, a ≤ x → x < M → M ≤ y → y < b → ltOf cf d1[y]! d1[x]! = false) := by
              have := halves hS (a := a) (m := m) (b := b) (s := s) (e := E) (by omega) (by omega) (by omega) (by omega) HA.out HB.out HE.out.1 HE.out.2 HR.out.1
              rw [show s + (E - m) = M by omega] at this
              exact this
            by_cases c1 : a < s ∧ s < M
            · have k1 : (a : Int) < (s : Int) := by omega
              have k2 : (s : Int) < (M : Int) := by omega
              have H2 := IH.out a s M d1 wr (by omega) (HR.out.2.2) (SU.out) (by omega) (by omega) (by omega) HX.out.1 (by have := HX.out.2.1; exact this)
              have HC2 := Lib.hid H2
              clear H2 SU
              go_wp2_with fail
              refine HC2.out.mono ?_
              rintro e w8 ⟨rfl, d2, hp2, ho2, hs2⟩
              have SV : Aside (SWK enc k w0 blk off d2 w8) := hs2
              have HP2 : Hid (PermIn a b d d2 ∧ SortedIn (ltOf cf) a M d2 ∧ d2.size = d.size) := ⟨permIn_trans _ _ _ _ _ HR.out.2.1 (permIn_mono _ _ _ _ _ _ (by omega) (by omega) (by have := HR.out.2.2; omega) hp2), ho2, hp2.1.trans HR.out.2.2⟩
              have HX2 : Hid (SortedIn (ltOf cf) M E d2 ∧ SortedIn (ltOf cf) E b d2 ∧ True ∧ ∀ x y, a ≤ x → x < M → M ≤ y → y < b → ltOf cf d2[y]! d2[x]! = false) := ⟨SortedIn.congrB HX.out.2.2.1 (fun i h1 h2 => hp2.2.1 i (.inr h1)), SortedIn.congrB HX.out.2.2.2.1 (fun i h1 h2 => hp2.2.1 i (.inr (by omega))), trivial, cross_perm (by have := HR.out.2.2; omega) (by omega) HX.out.2.2.2.2 hp2⟩
              clear hp2 ho2 hs2 HC2 HR HX
              by_cases c3 : M < E ∧ E < b
              · have k3 : (M : Int) < (E : Int) := by omega
                have k4 : (E : Int) < (b : Int) := by omega
                have H3 := IH.out M E b d2 w8 (by omega) (HP2.out.2.2) (SV.out) (by omega) (by omega) (by omega) HX2.out.1 HX2.out.2.1
                have HC3 := Lib.hid H3
                clear H3 SV
                go_wp2_with fail
                all_goals
                  refine HC3.out.mono ?_
                  rintro e w9 ⟨rfl, d3, hp3, ho3, hs3⟩
                  go_wp2
                  go_end0
                  exact ⟨rfl, d3, permIn_trans _ _ _ _ _ HP2.out.1 (permIn_mono _ _ _ _ _ _ (by omega) (by omega) (by have := HP2.out.2.2; omega) hp3), glue (SortedIn.congrB HP2.out.2.1 (fun i h1 h2 => hp3.2.1 i (.inl h2))) ho3 (cross_perm' (by have := HP2.out.2.2; omega) HX2.out.2.2.2 hp3), hs3⟩
              · by_cases c4 : M < E
                · have k3 : (M : Int) < (E : Int) := by omega
                  have k4 : ¬ (E : Int) < (b : Int) := by omega
                  go_wp2
                  all_goals
                    go_end0
                    exact ⟨rfl, d2, HP2.out.1, glue HP2.out.2.1 (pick_run (show E = M ∨ E = b by omega) HX2.out.1 HX2.out.2.1) HX2.out.2.2.2, SV.out⟩
                · have k3 : ¬ (M : Int) < (E : Int) := by omega
                  go_wp2
                  all_goals
                    go_end0
                    exact ⟨rfl, d2, HP2.out.1, glue HP2.out.2.1 (pick_run (show E = M ∨ E = b by omega) HX2.out.1 HX2.out.2.1) HX2.out.2.2.2, SV.out⟩
            · by_cases c2 : a < s
              · have k1 : (a : Int) < (s : Int) := by omega
                have k2 : ¬ (s : Int) < (M : Int) := by omega
                have SV : Aside (SWK enc k w0 blk off d1 wr) := SU
                obtain ⟨d2, hd2⟩ : ∃ d2, d2 = d1 := ⟨_, rfl⟩
                have HP2 : Hid (PermIn a b d d2 ∧ SortedIn (ltOf cf) a M d2 ∧ d2.size = d.size) := by
                  rw [hd2]
                  exact ⟨HR.out.2.1, pick_run (show s = a ∨ s = M by omega) HX.out.1 HX.out.2.1, HR.out.2.2⟩
                have HX2 : Hid (SortedIn (ltOf cf) M E d2 ∧ SortedIn (ltOf cf) E b d2 ∧ True ∧ ∀ x y, a ≤ x → x < M → M ≤ y → y < b → ltOf cf d2[y]! d2[x]! = false) := by
                  rw [hd2]
                  exact ⟨HX.out.2.2.1, HX.out.2.2.2.1, trivial, HX.out.2.2.2.2⟩
                rw [← hd2] at SV
                clear hd2 SU HR HX
                by_cases c3 : M < E ∧ E < b
                · have k3 : (M : Int) < (E : Int) := by omega
                  have k4 : (E : Int) < (b : Int) := by omega
                  have H3 := IH.out M E b d2 wr (by omega) (HP2.out.2.2) (SV.out) (by omega) (by omega) (by omega) HX2.out.1 HX2.out.2.1
                  have HC3 := Lib.hid H3
                  clear H3 SV
                  go_wp2_with fail
                  all_goals
                    refine HC3.out.mono ?_
                    rintro e w9 ⟨rfl, d3, hp3, ho3, hs3⟩
                    go_wp2
                    go_end0
                    exact ⟨rfl, d3, permIn_trans _ _ _ _ _ HP2.out.1 (permIn_mono _ _ _ _ _ _ (by omega) (by omega) (by have := HP2.out.2.2; omega) hp3), glue (SortedIn.congrB HP2.out.2.1 (fun i h1 h2 => hp3.2.1 i (.inl h2))) ho3 (cross_perm' (by have := HP2.out.2.2; omega) HX2.out.2.2.2 hp3), hs3⟩
                · by_cases c4 : M < E
                  · have k3 : (M : Int) < (E : Int) := by omega
                    have k4 : ¬ (E : Int) < (b : Int) := by omega
                    go_wp2
                    all_goals
                      go_end0
                      exact ⟨rfl, d2, HP2.out.1, glue HP2.out.2.1 (pick_run (show E = M ∨ E = b by omega) HX2.out.1 HX2.out.2.1) HX2.out.2.2.2, SV.out⟩
                  · have k3 : ¬ (M : Int) < (E : Int) := by omega
                    go_wp2
                    all_goals
                      go_end0
                      exact ⟨rfl, d2, HP2.out.1, glue HP2.out.2.1 (pick_run (show E = M ∨ E = b by omega) HX2.out.1 HX2.out.2.1) HX2.out.2.2.2, SV.out⟩
              · have k1 : ¬ (a : Int) < (s : Int) := by omega
                have SV : Aside (SWK enc k w0 blk off d1 wr) := SU
                obtain ⟨d2, hd2⟩ : ∃ d2, d2 = d1 := ⟨_, rfl⟩
                have HP2 : Hid (PermIn a b d d2 ∧ SortedIn (ltOf cf) a M d2 ∧ d2.size = d.size) := by
                  rw [hd2]
                  exact ⟨HR.out.2.1, pick_run (show s = a ∨ s = M by omega) HX.out.1 HX.out.2.1, HR.out.2.2⟩
                have HX2 : Hid (SortedIn (ltOf cf) M E d2 ∧ SortedIn (ltOf cf) E b d2 ∧ True ∧ ∀ x y, a ≤ x → x < M → M ≤ y → y < b → ltOf cf d2[y]! d2[x]! = false) := by
                  rw [hd2]
                  exact ⟨HX.out.2.2.1, HX.out.2.2.2.1, trivial, HX.out.2.2.2.2⟩
                rw [← hd2] at SV
                clear hd2 SU HR HX
                by_cases c3 : M < E ∧ E < b
                · have k3 : (M : Int) < (E : Int) := by omega
                  have k4 : (E : Int) < (b : Int) := by omega
                  have H3 := IH.out M E b d2 wr (by omega) (HP2.out.2.2) (SV.out) (by omega) (by omega) (by omega) HX2.out.1 HX2.out.2.1
                  have HC3 := Lib.hid H3
                  clear H3 SV
                  go_wp2_with fail
                  all_goals
                    refine HC3.out.mono ?_
                    rintro e w9 ⟨rfl, d3, hp3, ho3, hs3⟩
                    go_wp2
                    go_end0
                    exact ⟨rfl, d3, permIn_trans _ _ _ _ _ HP2.out.1 (permIn_mono _ _ _ _ _ _ (by omega) (by omega) (by have := HP2.out.2.2; omega) hp3), glue (SortedIn.congrB HP2.out.2.1 (fun i h1 h2 => hp3.2.1 i (.inl h2))) ho3 (cross_perm' (by have := HP2.out.2.2; omega) HX2.out.2.2.2 hp3), hs3⟩
                · by_cases c4 : M < E
                  · have k3 : (M : Int) < (E : Int) := by omega
                    have k4 : ¬ (E : Int) < (b : Int) := by omega
                    go_wp2
                    all_goals
                      go_end0
                      exact ⟨rfl, d2, HP2.out.1, glue HP2.out.2.1 (pick_run (show E = M ∨ E = b by omega) HX2.out.1 HX2.out.2.1) HX2.out.2.2.2, SV.out⟩
                  · have k3 : ¬ (M : Int) < (E : Int) := by omega
                    go_wp2
                    all_goals
                      go_end0
                      exact ⟨rfl, d2, HP2.out.1, glue HP2.out.2.1 (pick_run (show E = M ∨ E = b by omega) HX2.out.1 HX2.out.2.1) HX2.out.2.2.2, SV.out⟩
          · have k5 : ¬ (s : Int) < (m : Int) := by omega
            obtain ⟨d1, hd1⟩ : ∃ d1, d1 = d := ⟨_, rfl⟩
            have SU : Aside (SWK enc k w0 blk off d1 wr) := by rw [hd1]; exact S1
            have HR : Hid (RotR d d1 s m E ∧ PermIn a b d d1 ∧ d1.size = d.size) := by
              rw [hd1]
              exact ⟨rot_none d (show s = m ∨ E = m by omega) (by omega) (by omega), permIn_refl _ _ _, rfl⟩
            clear hd1 S1
            have HX : Hid (SortedIn (ltOf cf) a s d1 ∧ SortedIn (ltOf cf) s M d1 ∧ SortedIn (ltOf cf) M E d1 ∧ SortedIn (ltOf cf) E b d1 ∧ ∀ x y, a ≤ x → x < M → M ≤ y → y < b → ltOf cf d1[y]! d1[x]! = false) := by
              have := halves hS (a := a) (m := m) (b := b) (s := s) (e := E) (by omega) (by omega) (by omega) (by omega) HA.out HB.out HE.out.1 HE.out.2 HR.out.1
              rw [show s + (E - m) = M by omega] at this
              exact this
            by_cases c1 : a < s ∧ s < M
            · have k1 : (a : Int) < (s : Int) := by omega
              have k2 : (s : Int) < (M : Int) := by omega
              have H2 := IH.out a s M d1 wr (by omega) (HR.out.2.2) (SU.out) (by omega) (by omega) (by omega) HX.out.1 (by have := HX.out.2.1; exact this)
              have HC2 := Lib.hid H2
              clear H2 SU
              go_wp2_with fail
              refine HC2.out.mono ?_
              rintro e w8 ⟨rfl, d2, hp2, ho2, hs2⟩
              have SV : Aside (SWK enc k w0 blk off d2 w8) := hs2
              have HP2 : Hid (PermIn a b d d2 ∧ SortedIn (ltOf cf) a M d2 ∧ d2.size = d.size) := ⟨permIn_trans _ _ _ _ _ HR.out.2.1 (permIn_mono _ _ _ _ _ _ (by omega) (by omega) (by have := HR.out.2.2; omega) hp2), ho2, hp2.1.trans HR.out.2.2⟩
              have HX2 : Hid (SortedIn (ltOf cf) M E d2 ∧ SortedIn (ltOf cf) E b d2 ∧ True ∧ ∀ x y, a ≤ x → x < M → M ≤ y → y < b → ltOf cf d2[y]! d2[x]! = false) := ⟨SortedIn.congrB HX.out.2.2.1 (fun i h1 h2 => hp2.2.1 i (.inr h1)), SortedIn.congrB HX.out.2.2.2.1 (fun i h1 h2 => hp2.2.1 i (.inr (by omega))), trivial, cross_perm (by have := HR.out.2.2; omega) (by omega) HX.out.2.2.2.2 hp2⟩
              clear hp2 ho2 hs2 HC2 HR HX
              by_cases c3 : M < E ∧ E < b
              · have k3 : (M : Int) < (E : Int) := by omega
                have k4 : (E : Int) < (b : Int) := by omega
                have H3 := IH.out M E b d2 w8 (by omega) (HP2.out.2.2) (SV.out) (by omega) (by omega) (by omega) HX2.out.1 HX2.out.2.1
                have HC3 := Lib.hid H3
                clear H3 SV
                go_wp2_with fail
                all_goals
                  refine HC3.out.mono ?_
                  rintro e w9 ⟨rfl, d3, hp3, ho3, hs3⟩
                  go_wp2
                  go_end0
                  exact ⟨rfl, d3, permIn_trans _ _ _ _ _ HP2.out.1 (permIn_mono _ _ _ _ _ _ (by omega) (by omega) (by have := HP2.out.2.2; omega) hp3), glue (SortedIn.congrB HP2.out.2.1 (fun i h1 h2 => hp3.2.1 i (.inl h2))) ho3 (cross_perm' (by have := HP2.out.2.2; omega) HX2.out.2.2.2 hp3), hs3⟩
              · by_cases c4 : M < E
                · have k3 : (M : Int) < (E : Int) := by omega
                  have k4 : ¬ (E : Int) < (b : Int) := by omega
                  go_wp2
                  all_goals
                    go_end0
                    exact ⟨rfl, d2, HP2.out.1, glue HP2.out.2.1 (pick_run (show E = M ∨ E = b by omega) HX2.out.1 HX2.out.2.1) HX2.out.2.2.2, SV.out⟩
                · have k3 : ¬ (M : Int) < (E : Int) := by omega
                  go_wp2
                  all_goals
                    go_end0
                    exact ⟨rfl, d2, HP2.out.1, glue HP2.out.2.1 (pick_run (show E = M ∨ E = b by omega) HX2.out.1 HX2.out.2.1) HX2.out.2.2.2, SV.out⟩
            · by_cases c2 : a < s
              · have k1 : (a : Int) < (s : Int) := by omega
                have k2 : ¬ (s : Int) < (M : Int) := by omega
                have SV : Aside (SWK enc k w0 blk off d1 wr) := SU
                obtain ⟨d2, hd2⟩ : ∃ d2, d2 = d1 := ⟨_, rfl⟩
                have HP2 : Hid (PermIn a b d d2 ∧ SortedIn (ltOf cf) a M d2 ∧ d2.size = d.size) := by
                  rw [hd2]
                  exact ⟨HR.out.2.1, pick_run (show s = a ∨ s = M by omega) HX.out.1 HX.out.2.1, HR.out.2.2⟩
                have HX2 : Hid (SortedIn (ltOf cf) M E d2 ∧ SortedIn (ltOf cf) E b d2 ∧ True ∧ ∀ x y, a ≤ x → x < M → M ≤ y → y < b → ltOf cf d2[y]! d2[x]! = false) := by
                  rw [hd2]
                  exact ⟨HX.out.2.2.1, HX.out.2.2.2.1, trivial, HX.out.2.2.2.2⟩
                rw [← hd2] at SV
                clear hd2 SU HR HX
                by_cases c3 : M < E ∧ E < b
                · have k3 : (M : Int) < (E : Int) := by omega
                  have k4 : (E : Int) < (b : Int) := by omega
                  have H3 := IH.out M E b d2 wr (by omega) (HP2.out.2.2) (SV.out) (by omega) (by omega) (by omega) HX2.out.1 HX2.out.2.1
                  have HC3 := Lib.hid H3
                  clear H3 SV
                  go_wp2_with fail
                  all_goals
                    refine HC3.out.mono ?_
                    rintro e w9 ⟨rfl, d3, hp3, ho3, hs3⟩
                    go_wp2
                    go_end0
                    exact ⟨rfl, d3, permIn_trans _ _ _ _ _ HP2.out.1 (permIn_mono _ _ _ _ _ _ (by omega) (by omega) (by have := HP2.out.2.2; omega) hp3), glue (SortedIn.congrB HP2.out.2.1 (fun i h1 h2 => hp3.2.1 i (.inl h2))) ho3 (cross_perm' (by have := HP2.out.2.2; omega) HX2.out.2.2.2 hp3), hs3⟩
                · by_cases c4 : M < E
                  · have k3 : (M : Int) < (E : Int) := by omega
                    have k4 : ¬ (E : Int) < (b : Int) := by omega
                    go_wp2
                    all_goals
                      go_end0
                      exact ⟨rfl, d2, HP2.out.1, glue HP2.out.2.1 (pick_run (show E = M ∨ E = b by omega) HX2.out.1 HX2.out.2.1) HX2.out.2.2.2, SV.out⟩
                  · have k3 : ¬ (M : Int) < (E : Int) := by omega
                    go_wp2
                    all_goals
                      go_end0
                      exact ⟨rfl, d2, HP2.out.1, glue HP2.out.2.1 (pick_run (show E = M ∨ E = b by omega) HX2.out.1 HX2.out.2.1) HX2.out.2.2.2, SV.out⟩
              · have k1 : ¬ (a : Int) < (s : Int) := by omega
                have SV : Aside (SWK enc k w0 blk off d1 wr) := SU
                obtain ⟨d2, hd2⟩ : ∃ d2, d2 = d1 := ⟨_, rfl⟩
                have HP2 : Hid (PermIn a b d d2 ∧ SortedIn (ltOf cf) a M d2 ∧ d2.size = d.size) := by
                  rw [hd2]
                  exact ⟨HR.out.2.1, pick_run (show s = a ∨ s = M by omega) HX.out.1 HX.out.2.1, HR.out.2.2⟩
                have HX2 : Hid (SortedIn (ltOf cf) M E d2 ∧ SortedIn (ltOf cf) E b d2 ∧ True ∧ ∀ x y, a ≤ x → x < M → M ≤ y → y < b → ltOf cf d2[y]! d2[x]! = false) := by
                  rw [hd2]
                  exact ⟨HX.out.2.2.1, HX.out.2.2.2.1, trivial, HX.out.2.2.2.2⟩
                rw [← hd2] at SV
                clear hd2 SU HR HX
                by_cases c3 : M < E ∧ E < b
                · have k3 : (M : Int) < (E : Int) := by omega
                  have k4 : (E : Int) < (b : Int) := by omega
                  have H3 := IH.out M E b d2 wr (by omega) (HP2.out.2.2) (SV.out) (by omega) (by omega) (by omega) HX2.out.1 HX2.out.2.1
                  have HC3 := Lib.hid H3
                  clear H3 SV
                  go_wp2_with fail
                  all_goals
                    refine HC3.out.mono ?_
                    rintro e w9 ⟨rfl, d3, hp3, ho3, hs3⟩
                    go_wp2
                    go_end0
                    exact ⟨rfl, d3, permIn_trans _ _ _ _ _ HP2.out.1 (permIn_mono _ _ _ _ _ _ (by omega) (by omega) (by have := HP2.out.2.2; omega) hp3), glue (SortedIn.congrB HP2.out.2.1 (fun i h1 h2 => hp3.2.1 i (.inl h2))) ho3 (cross_perm' (by have := HP2.out.2.2; omega) HX2.out.2.2.2 hp3), hs3⟩
                · by_cases c4 : M < E
                  · have k3 : (M : Int) < (E : Int) := by omega
                    have k4 : ¬ (E : Int) < (b : Int) := by omega
                    go_wp2
                    all_goals
                      go_end0
                      exact ⟨rfl, d2, HP2.out.1, glue HP2.out.2.1 (pick_run (show E = M ∨ E = b by omega) HX2.out.1 HX2.out.2.1) HX2.out.2.2.2, SV.out⟩
                  · have k3 : ¬ (M : Int) < (E : Int) := by omega
                    go_wp2
                    all_goals
                      go_end0
                      exact ⟨rfl, d2, HP2.out.1, glue HP2.out.2.1 (pick_run (show E = M ∨ E = b by omega) HX2.out.1 HX2.out.2.1) HX2.out.2.2.2, SV.out⟩
  · have hgz : ¬ (M : Int) < (m : Int) := by omega
    go_enter L.f107, Tryz.ntmps145
    go_wp2
    clear hMz hZz t1 t2
    go_loopg [20, 21] (m - (a)) (fun gx s20 s21 wr => ∃ s r : Nat, s20 = .int .i64 s ∧ s21 = .int .i64 r ∧ a ≤ s ∧ s ≤ r ∧ r ≤ m ∧ r - s ≤ gx ∧ Aside (SWK enc k w0 blk off d wr) ∧ Hid ((s = a ∨ ltOf cf d[Z - (s - 1)]! d[s - 1]! = false) ∧ (r = m ∨ ltOf cf d[Z - r]! d[r]! = true)))
    case atStart => exact ⟨a, m, rfl, rfl, by omega, by omega, by omega, by omega, S0, (⟨.inl rfl, .inl rfl⟩ : (a = a ∨ ltOf cf d[Z - (a - 1)]! d[a - 1]! = false) ∧ (m = m ∨ ltOf cf d[Z - m]! d[m]! = true))⟩
    case round =>
      clear S0
      obtain ⟨s, r, rfl, rfl, hs1, hsr, hr1, hgx, S1, HI⟩ := hrel
      by_cases hlt : s < r
      · have hltz : (s : Int) < (r : Int) := by omega
        obtain ⟨c, hc⟩ : ∃ c, (s + r) / 2 = c := ⟨_, rfl⟩
        have hc1 : s ≤ c := by omega
        have hc2 : c < r := by omega
        have hcz : ((s : Int) + (r : Int)) / 2 = (c : Int) := by omega
        obtain ⟨Y, hY⟩ : ∃ Y, Z - c = Y := ⟨_, rfl⟩
        have hYz : (Z : Int) - (c : Int) = (Y : Int) := by omega
        have HYY := Lib.hid hY
        have hY1 : m ≤ Y := by omega
        have hY2 : Y < b := by omega
        clear hc hY
        cases hL : ltOf cf d[Y]! d[c]! with
        | false =>
          have HN : Hid ((c + 1 = a ∨ ltOf cf d[Z - (c + 1 - 1)]! d[c + 1 - 1]! = false) ∧ (r = m ∨ ltOf cf d[Z - r]! d[r]! = true)) := ⟨.inr (by rw [Nat.add_sub_cancel, HYY.out]; exact hL), HI.out.2⟩
          have ex : ((Y : Int)).toNat = Y := by omega
          have px : (0 : Int) ≤ (Y : Int) := by omega
          have bx : (Y : Int) < (d.size : Int) := by omega
          have rx : IntKind.i64.wrap ((Y : Int)) = (Y : Int) := by rw [IntKind.wrap_i64]; omega
          have ev : ((c : Int)).toNat = c := by omega
          have pv : (0 : Int) ≤ (c : Int) := by omega
          have bv : (c : Int) < (d.size : Int) := by omega
          have rv : IntKind.i64.wrap ((c : Int)) = (c : Int) := by rw [IntKind.wrap_i64]; omega
          obtain ⟨x, hx⟩ : ∃ x, x = d[Y]! := ⟨_, rfl⟩
          obtain ⟨y, hy⟩ : ∃ y, y = d[c]! := ⟨_, rfl⟩
          have lx := S1.out.ld R (HD.out) P (Y) (by omega)
          have ly := S1.out.ld R (HD.out) P (c) (by omega)
          rw [← hx] at lx
          rw [← hy] at ly
          have hc := S1.out.cmp HC.out (HD.out) x y
          have hv : ¬ cf x y < 0 := by rw [hx, hy]; exact of_decide_eq_false hL
          have hd : decide (cf x y < 0) = false := decide_eq_false hv
          clear hx hy
          go_wp2_with fail
          go_quiet_grown (first | (go_at_fn g; refine Calls.grown_of (hc _ _)))
          have S2 : Aside (SWK enc k w0 blk off d (grow (wr.drewN nq) osq)) := S1.out.grown nq osq
          clear lx ly hc S1
          generalize grow (wr.drewN nq) osq = w2 at S2 ⊢
          clear nq osq ex px bx rx ev pv bv rv hv hd
          clear hcz hYz
          go_wp2
          go_roundg (r - (c + 1))
          case measure => omega
          case rel => exact ⟨c + 1, r, by go_num, rfl, by omega, by omega, by omega, by omega, S2, HN⟩
        | true =>
          have HN : Hid ((s = a ∨ ltOf cf d[Z - (s - 1)]! d[s - 1]! = false) ∧ (c = m ∨ ltOf cf d[Z - c]! d[c]! = true)) := ⟨HI.out.1, .inr (by rw [HYY.out]; exact hL)⟩
          have ex : ((Y : Int)).toNat = Y := by omega
          have px : (0 : Int) ≤ (Y : Int) := by omega
          have bx : (Y : Int) < (d.size : Int) := by omega
          have rx : IntKind.i64.wrap ((Y : Int)) = (Y : Int) := by rw [IntKind.wrap_i64]; omega
          have ev : ((c : Int)).toNat = c := by omega
          have pv : (0 : Int) ≤ (c : Int) := by omega
          have bv : (c : Int) < (d.size : Int) := by omega
          have rv : IntKind.i64.wrap ((c : Int)) = (c : Int) := by rw [IntKind.wrap_i64]; omega
          obtain ⟨x, hx⟩ : ∃ x, x = d[Y]! := ⟨_, rfl⟩
          obtain ⟨y, hy⟩ : ∃ y, y = d[c]! := ⟨_, rfl⟩
          have lx := S1.out.ld R (HD.out) P (Y) (by omega)
          have ly := S1.out.ld R (HD.out) P (c) (by omega)
          rw [← hx] at lx
          rw [← hy] at ly
          have hc := S1.out.cmp HC.out (HD.out) x y
          have hv : cf x y < 0 := by rw [hx, hy]; exact of_decide_eq_true hL
          have hd : decide (cf x y < 0) = true := decide_eq_true hv
          clear hx hy
          go_wp2_with fail
          go_quiet_grown (first | (go_at_fn g; refine Calls.grown_of (hc _ _)))
          have S2 : Aside (SWK enc k w0 blk off d (grow (wr.drewN nq) osq)) := S1.out.grown nq osq
          clear lx ly hc S1
          generalize grow (wr.drewN nq) osq = w2 at S2 ⊢
          clear nq osq ex px bx rx ev pv bv rv hv hd
          clear hcz hYz
          go_wp2
          go_roundg (c - s)
          case measure => omega
          case rel => exact ⟨s, c, rfl, rfl, by omega, by omega, by omega, by omega, S2, HN⟩
      · have hltz : ¬ (s : Int) < (r : Int) := by omega
        obtain rfl : s = r := by omega
        obtain ⟨E, hE⟩ : ∃ E, E + s = M + m := ⟨M + m - s, by omega⟩
        have EE := Lib.hid (show (M : Int) + (m : Int) - (s : Int) = (E : Int) by omega)
        have HE : Hid ((s = a ∨ E = b ∨ ltOf cf d[E]! d[s - 1]! = false) ∧ (s = m ∨ E = m ∨ ltOf cf d[E - 1]! d[s]! = true)) := by
          have e2 : Z - s = E - 1 := by omega
          have := HI.out
          rw [e2] at this
          refine ⟨?_, ?_⟩
          · rcases this.1 with h | h
            · omega
            · rcases Nat.eq_zero_or_pos s with h0 | h0
              · exact .inl (by omega)
              · rw [show Z - (s - 1) = E by omega] at h
                exact .inr (.inr h)
          · rcases this.2 with h | h
            · omega
            · exact .inr (.inr h)
        have h1E : E + s ≤ M + m := by omega
        have h2E : M + m ≤ E + s := by omega
        clear HI hE
        have eez : (M : Int) + (m : Int) - (s : Int) = (E : Int) := EE.out
        by_cases c5 : s < m ∧ m < E
        · have k5 : (s : Int) < (m : Int) := by omega
          have k6 : (m : Int) < (E : Int) := by omega
          have H1 := rotate_any L enc (.func (.func g) #[] cb) blk off cap s m E d0 d w0 wr R HD.out S1.out (by omega) (by omega) (by omega) hsz
          have HC1 := Lib.hid H1
          clear H1 S1
          go_wp2_with fail
          refine HC1.out.mono ?_
          rintro e w7 ⟨rfl, d1, hr1, hp1, hs1⟩
          have SU : Aside (SWK enc k w0 blk off d1 w7) := hs1
          have HR : Hid (RotR d d1 s m E ∧ PermIn a b d d1 ∧ d1.size = d.size) := ⟨hr1, permIn_mono _ _ _ _ _ _ (by omega) (by omega) (by omega) hp1, hp1.1⟩
          clear hr1 hp1 hs1 HC1
          have HX : Hid (SortedIn (ltOf cf) a s d1 ∧ SortedIn (ltOf cf) s M d1 ∧ SortedIn (ltOf cf) M E d1 ∧ SortedIn (ltOf cf) E b d1 ∧ ∀ x y, a ≤ x → x < M → M ≤ y → y < b → ltOf cf d1[y]! d1[x]! = false) := by
            have := halves hS (a := a) (m := m) (b := b) (s := s) (e := E) (by omega) (by omega) (by omega) (by omega) HA.out HB.out HE.out.1 HE.out.2 HR.out.1
            rw [show s + (E - m) = M by omega] at this
            exact this
          by_cases c1 : a < s ∧ s < M
          · have k1 : (a : Int) < (s : Int) := by omega
            have k2 : (s : Int) < (M : Int) := by omega
            have H2 := IH.out a s M d1 w7 (by omega) (HR.out.2.2) (SU.out) (by omega) (by omega) (by omega) HX.out.1 (by have := HX.out.2.1; exact this)
            have HC2 := Lib.hid H2
            clear H2 SU
            go_wp2_with fail
            refine HC2.out.mono ?_
            rintro e w8 ⟨rfl, d2, hp2, ho2, hs2⟩
            have SV : Aside (SWK enc k w0 blk off d2 w8) := hs2
            have HP2 : Hid (PermIn a b d d2 ∧ SortedIn (ltOf cf) a M d2 ∧ d2.size = d.size) := ⟨permIn_trans _ _ _ _ _ HR.out.2.1 (permIn_mono _ _ _ _ _ _ (by omega) (by omega) (by have := HR.out.2.2; omega) hp2), ho2, hp2.1.trans HR.out.2.2⟩
            have HX2 : Hid (SortedIn (ltOf cf) M E d2 ∧ SortedIn (ltOf cf) E b d2 ∧ True ∧ ∀ x y, a ≤ x → x < M → M ≤ y → y < b → ltOf cf d2[y]! d2[x]! = false) := ⟨SortedIn.congrB HX.out.2.2.1 (fun i h1 h2 => hp2.2.1 i (.inr h1)), SortedIn.congrB HX.out.2.2.2.1 (fun i h1 h2 => hp2.2.1 i (.inr (by omega))), trivial, cross_perm (by have := HR.out.2.2; omega) (by omega) HX.out.2.2.2.2 hp2⟩
            clear hp2 ho2 hs2 HC2 HR HX
            by_cases c3 : M < E ∧ E < b
            · have k3 : (M : Int) < (E : Int) := by omega
              have k4 : (E : Int) < (b : Int) := by omega
              have H3 := IH.out M E b d2 w8 (by omega) (HP2.out.2.2) (SV.out) (by omega) (by omega) (by omega) HX2.out.1 HX2.out.2.1
              have HC3 := Lib.hid H3
              clear H3 SV
              go_wp2_with fail
              all_goals
                refine HC3.out.mono ?_
                rintro e w9 ⟨rfl, d3, hp3, ho3, hs3⟩
                go_wp2
                go_end0
                exact ⟨rfl, d3, permIn_trans _ _ _ _ _ HP2.out.1 (permIn_mono _ _ _ _ _ _ (by omega) (by omega) (by have := HP2.out.2.2; omega) hp3), glue (SortedIn.congrB HP2.out.2.1 (fun i h1 h2 => hp3.2.1 i (.inl h2))) ho3 (cross_perm' (by have := HP2.out.2.2; omega) HX2.out.2.2.2 hp3), hs3⟩
            · by_cases c4 : M < E
              · have k3 : (M : Int) < (E : Int) := by omega
                have k4 : ¬ (E : Int) < (b : Int) := by omega
                go_wp2
                all_goals
                  go_end0
                  exact ⟨rfl, d2, HP2.out.1, glue HP2.out.2.1 (pick_run (show E = M ∨ E = b by omega) HX2.out.1 HX2.out.2.1) HX2.out.2.2.2, SV.out⟩
              · have k3 : ¬ (M : Int) < (E : Int) := by omega
                go_wp2
                all_goals
                  go_end0
                  exact ⟨rfl, d2, HP2.out.1, glue HP2.out.2.1 (pick_run (show E = M ∨ E = b by omega) HX2.out.1 HX2.out.2.1) HX2.out.2.2.2, SV.out⟩
          · by_cases c2 : a < s
            · have k1 : (a : Int) < (s : Int) := by omega
              have k2 : ¬ (s : Int) < (M : Int) := by omega
              have SV : Aside (SWK enc k w0 blk off d1 w7) := SU
              obtain ⟨d2, hd2⟩ : ∃ d2, d2 = d1 := ⟨_, rfl⟩
              have HP2 : Hid (PermIn a b d d2 ∧ SortedIn (ltOf cf) a M d2 ∧ d2.size = d.size) := by
                rw [hd2]
                exact ⟨HR.out.2.1, pick_run (show s = a ∨ s = M by omega) HX.out.1 HX.out.2.1, HR.out.2.2⟩
              have HX2 : Hid (SortedIn (ltOf cf) M E d2 ∧ SortedIn (ltOf cf) E b d2 ∧ True ∧ ∀ x y, a ≤ x → x < M → M ≤ y → y < b → ltOf cf d2[y]! d2[x]! = false) := by
                rw [hd2]
                exact ⟨HX.out.2.2.1, HX.out.2.2.2.1, trivial, HX.out.2.2.2.2⟩
              rw [← hd2] at SV
              clear hd2 SU HR HX
              by_cases c3 : M < E ∧ E < b
              · have k3 : (M : Int) < (E : Int) := by omega
                have k4 : (E : Int) < (b : Int) := by omega
                have H3 := IH.out M E b d2 w7 (by omega) (HP2.out.2.2) (SV.out) (by omega) (by omega) (by omega) HX2.out.1 HX2.out.2.1
                have HC3 := Lib.hid H3
                clear H3 SV
                go_wp2_with fail
                all_goals
                  refine HC3.out.mono ?_
                  rintro e w9 ⟨rfl, d3, hp3, ho3, hs3⟩
                  go_wp2
                  go_end0
                  exact ⟨rfl, d3, permIn_trans _ _ _ _ _ HP2.out.1 (permIn_mono _ _ _ _ _ _ (by omega) (by omega) (by have := HP2.out.2.2; omega) hp3), glue (SortedIn.congrB HP2.out.2.1 (fun i h1 h2 => hp3.2.1 i (.inl h2))) ho3 (cross_perm' (by have := HP2.out.2.2; omega) HX2.out.2.2.2 hp3), hs3⟩
              · by_cases c4 : M < E
                · have k3 : (M : Int) < (E : Int) := by omega
                  have k4 : ¬ (E : Int) < (b : Int) := by omega
                  go_wp2
                  all_goals
                    go_end0
                    exact ⟨rfl, d2, HP2.out.1, glue HP2.out.2.1 (pick_run (show E = M ∨ E = b by omega) HX2.out.1 HX2.out.2.1) HX2.out.2.2.2, SV.out⟩
                · have k3 : ¬ (M : Int) < (E : Int) := by omega
                  go_wp2
                  all_goals
                    go_end0
                    exact ⟨rfl, d2, HP2.out.1, glue HP2.out.2.1 (pick_run (show E = M ∨ E = b by omega) HX2.out.1 HX2.out.2.1) HX2.out.2.2.2, SV.out⟩
            · have k1 : ¬ (a : Int) < (s : Int) := by omega
              have SV : Aside (SWK enc k w0 blk off d1 w7) := SU
              obtain ⟨d2, hd2⟩ : ∃ d2, d2 = d1 := ⟨_, rfl⟩
              have HP2 : Hid (PermIn a b d d2 ∧ SortedIn (ltOf cf) a M d2 ∧ d2.size = d.size) := by
                rw [hd2]
                exact ⟨HR.out.2.1, pick_run (show s = a ∨ s = M by omega) HX.out.1 HX.out.2.1, HR.out.2.2⟩
              have HX2 : Hid (SortedIn (ltOf cf) M E d2 ∧ SortedIn (ltOf cf) E b d2 ∧ True ∧ ∀ x y, a ≤ x → x < M → M ≤ y → y < b → ltOf cf d2[y]! d2[x]! = false) := by
                rw [hd2]
                exact ⟨HX.out.2.2.1, HX.out.2.2.2.1, trivial, HX.out.2.2.2.2⟩
              rw [← hd2] at SV
              clear hd2 SU HR HX
              by_cases c3 : M < E ∧ E < b
              · have k3 : (M : Int) < (E : Int) := by omega
                have k4 : (E : Int) < (b : Int) := by omega
                have H3 := IH.out M E b d2 w7 (by omega) (HP2.out.2.2) (SV.out) (by omega) (by omega) (by omega) HX2.out.1 HX2.out.2.1
                have HC3 := Lib.hid H3
                clear H3 SV
                go_wp2_with fail
                all_goals
                  refine HC3.out.mono ?_
                  rintro e w9 ⟨rfl, d3, hp3, ho3, hs3⟩
                  go_wp2
                  go_end0
                  exact ⟨rfl, d3, permIn_trans _ _ _ _ _ HP2.out.1 (permIn_mono _ _ _ _ _ _ (by omega) (by omega) (by have := HP2.out.2.2; omega) hp3), glue (SortedIn.congrB HP2.out.2.1 (fun i h1 h2 => hp3.2.1 i (.inl h2))) ho3 (cross_perm' (by have := HP2.out.2.2; omega) HX2.out.2.2.2 hp3), hs3⟩
              · by_cases c4 : M < E
                · have k3 : (M : Int) < (E : Int) := by omega
                  have k4 : ¬ (E : Int) < (b : Int) := by omega
                  go_wp2
                  all_goals
                    go_end0
                    exact ⟨rfl, d2, HP2.out.1, glue HP2.out.2.1 (pick_run (show E = M ∨ E = b by omega) HX2.out.1 HX2.out.2.1) HX2.out.2.2.2, SV.out⟩
                · have k3 : ¬ (M : Int) < (E : Int) := by omega
                  go_wp2
                  all_goals
                    go_end0
                    exact ⟨rfl, d2, HP2.out.1, glue HP2.out.2.1 (pick_run (show E = M ∨ E = b by omega) HX2.out.1 HX2.out.2.1) HX2.out.2.2.2, SV.out⟩
        · by_cases c6 : s < m
          · have k5 : (s : Int) < (m : Int) := by omega
            have k6 : ¬ (m : Int) < (E : Int) := by omega
            obtain ⟨d1, hd1⟩ : ∃ d1, d1 = d := ⟨_, rfl⟩
            have SU : Aside (SWK enc k w0 blk off d1 wr) := by rw [hd1]; exact S1
            have HR : Hid (RotR d d1 s m E ∧ PermIn a b d d1 ∧ d1.size = d.size) := by
              rw [hd1]
              exact ⟨rot_none d (show s = m ∨ E = m by omega) (by omega) (by omega), permIn_refl _ _ _, rfl⟩
            clear hd1 S1
            have HX : Hid (SortedIn (ltOf cf) a s d1 ∧ SortedIn (ltOf cf) s M d1 ∧ SortedIn (ltOf cf) M E d1 ∧ SortedIn (ltOf cf) E b d1 ∧ ∀ x y, a ≤ x → x < M → M ≤ y → y < b → ltOf cf d1[y]! d1[x]! = false) := by
              have := halves hS (a := a) (m := m) (b := b) (s := s) (e := E) (by omega) (by omega) (by omega) (by omega) HA.out HB.out HE.out.1 HE.out.2 HR.out.1
              rw [show s + (E - m) = M by omega] at this
              exact this
            by_cases c1 : a < s ∧ s < M
            · have k1 : (a : Int) < (s : Int) := by omega
              have k2 : (s : Int) < (M : Int) := by omega
              have H2 := IH.out a s M d1 wr (by omega) (HR.out.2.2) (SU.out) (by omega) (by omega) (by omega) HX.out.1 (by have := HX.out.2.1; exact this)
              have HC2 := Lib.hid H2
              clear H2 SU
              go_wp2_with fail
              refine HC2.out.mono ?_
              rintro e w8 ⟨rfl, d2, hp2, ho2, hs2⟩
              have SV : Aside (SWK enc k w0 blk off d2 w8) := hs2
              have HP2 : Hid (PermIn a b d d2 ∧ SortedIn (ltOf cf) a M d2 ∧ d2.size = d.size) := ⟨permIn_trans _ _ _ _ _ HR.out.2.1 (permIn_mono _ _ _ _ _ _ (by omega) (by omega) (by have := HR.out.2.2; omega) hp2), ho2, hp2.1.trans HR.out.2.2⟩
              have HX2 : Hid (SortedIn (ltOf cf) M E d2 ∧ SortedIn (ltOf cf) E b d2 ∧ True ∧ ∀ x y, a ≤ x → x < M → M ≤ y → y < b → ltOf cf d2[y]! d2[x]! = false) := ⟨SortedIn.congrB HX.out.2.2.1 (fun i h1 h2 => hp2.2.1 i (.inr h1)), SortedIn.congrB HX.out.2.2.2.1 (fun i h1 h2 => hp2.2.1 i (.inr (by omega))), trivial, cross_perm (by have := HR.out.2.2; omega) (by omega) HX.out.2.2.2.2 hp2⟩
              clear hp2 ho2 hs2 HC2 HR HX
              by_cases c3 : M < E ∧ E < b
              · have k3 : (M : Int) < (E : Int) := by omega
                have k4 : (E : Int) < (b : Int) := by omega
                have H3 := IH.out M E b d2 w8 (by omega) (HP2.out.2.2) (SV.out) (by omega) (by omega) (by omega) HX2.out.1 HX2.out.2.1
                have HC3 := Lib.hid H3
                clear H3 SV
                go_wp2_with fail
                all_goals
                  refine HC3.out.mono ?_
                  rintro e w9 ⟨rfl, d3, hp3, ho3, hs3⟩
                  go_wp2
                  go_end0
                  exact ⟨rfl, d3, permIn_trans _ _ _ _ _ HP2.out.1 (permIn_mono _ _ _ _ _ _ (by omega) (by omega) (by have := HP2.out.2.2; omega) hp3), glue (SortedIn.congrB HP2.out.2.1 (fun i h1 h2 => hp3.2.1 i (.inl h2))) ho3 (cross_perm' (by have := HP2.out.2.2; omega) HX2.out.2.2.2 hp3), hs3⟩
              · by_cases c4 : M < E
                · have k3 : (M : Int) < (E : Int) := by omega
                  have k4 : ¬ (E : Int) < (b : Int) := by omega
                  go_wp2
                  all_goals
                    go_end0
                    exact ⟨rfl, d2, HP2.out.1, glue HP2.out.2.1 (pick_run (show E = M ∨ E = b by omega) HX2.out.1 HX2.out.2.1) HX2.out.2.2.2, SV.out⟩
                · have k3 : ¬ (M : Int) < (E : Int) := by omega
                  go_wp2
                  all_goals
                    go_end0
                    exact ⟨rfl, d2, HP2.out.1, glue HP2.out.2.1 (pick_run (show E = M ∨ E = b by omega) HX2.out.1 HX2.out.2.1) HX2.out.2.2.2, SV.out⟩
            · by_cases c2 : a < s
              · have k1 : (a : Int) < (s : Int) := by omega
                have k2 : ¬ (s : Int) < (M : Int) := by omega
                have SV : Aside (SWK enc k w0 blk off d1 wr) := SU
                obtain ⟨d2, hd2⟩ : ∃ d2, d2 = d1 := ⟨_, rfl⟩
                have HP2 : Hid (PermIn a b d d2 ∧ SortedIn (ltOf cf) a M d2 ∧ d2.size = d.size) := by
                  rw [hd2]
                  exact ⟨HR.out.2.1, pick_run (show s = a ∨ s = M by omega) HX.out.1 HX.out.2.1, HR.out.2.2⟩
                have HX2 : Hid (SortedIn (ltOf cf) M E d2 ∧ SortedIn (ltOf cf) E b d2 ∧ True ∧ ∀ x y, a ≤ x → x < M → M ≤ y → y < b → ltOf cf d2[y]! d2[x]! = false) := by
                  rw [hd2]
                  exact ⟨HX.out.2.2.1, HX.out.2.2.2.1, trivial, HX.out.2.2.2.2⟩
                rw [← hd2] at SV
                clear hd2 SU HR HX
                by_cases c3 : M < E ∧ E < b
                · have k3 : (M : Int) < (E : Int) := by omega
                  have k4 : (E : Int) < (b : Int) := by omega
                  have H3 := IH.out M E b d2 wr (by omega) (HP2.out.2.2) (SV.out) (by omega) (by omega) (by omega) HX2.out.1 HX2.out.2.1
                  have HC3 := Lib.hid H3
                  clear H3 SV
                  go_wp2_with fail
                  all_goals
                    refine HC3.out.mono ?_
                    rintro e w9 ⟨rfl, d3, hp3, ho3, hs3⟩
                    go_wp2
                    go_end0
                    exact ⟨rfl, d3, permIn_trans _ _ _ _ _ HP2.out.1 (permIn_mono _ _ _ _ _ _ (by omega) (by omega) (by have := HP2.out.2.2; omega) hp3), glue (SortedIn.congrB HP2.out.2.1 (fun i h1 h2 => hp3.2.1 i (.inl h2))) ho3 (cross_perm' (by have := HP2.out.2.2; omega) HX2.out.2.2.2 hp3), hs3⟩
                · by_cases c4 : M < E
                  · have k3 : (M : Int) < (E : Int) := by omega
                    have k4 : ¬ (E : Int) < (b : Int) := by omega
                    go_wp2
                    all_goals
                      go_end0
                      exact ⟨rfl, d2, HP2.out.1, glue HP2.out.2.1 (pick_run (show E = M ∨ E = b by omega) HX2.out.1 HX2.out.2.1) HX2.out.2.2.2, SV.out⟩
                  · have k3 : ¬ (M : Int) < (E : Int) := by omega
                    go_wp2
                    all_goals
                      go_end0
                      exact ⟨rfl, d2, HP2.out.1, glue HP2.out.2.1 (pick_run (show E = M ∨ E = b by omega) HX2.out.1 HX2.out.2.1) HX2.out.2.2.2, SV.out⟩
              · have k1 : ¬ (a : Int) < (s : Int) := by omega
                have SV : Aside (SWK enc k w0 blk off d1 wr) := SU
                obtain ⟨d2, hd2⟩ : ∃ d2, d2 = d1 := ⟨_, rfl⟩
                have HP2 : Hid (PermIn a b d d2 ∧ SortedIn (ltOf cf) a M d2 ∧ d2.size = d.size) := by
                  rw [hd2]
                  exact ⟨HR.out.2.1, pick_run (show s = a ∨ s = M by omega) HX.out.1 HX.out.2.1, HR.out.2.2⟩
                have HX2 : Hid (SortedIn (ltOf cf) M E d2 ∧ SortedIn (ltOf cf) E b d2 ∧ True ∧ ∀ x y, a ≤ x → x < M → M ≤ y → y < b → ltOf cf d2[y]! d2[x]! = false) := by
                  rw [hd2]
                  exact ⟨HX.out.2.2.1, HX.out.2.2.2.1, trivial, HX.out.2.2.2.2⟩
                rw [← hd2] at SV
                clear hd2 SU HR HX
                by_cases c3 : M < E ∧ E < b
                · have k3 : (M : Int) < (E : Int) := by omega
                  have k4 : (E : Int) < (b : Int) := by omega
                  have H3 := IH.out M E b d2 wr (by omega) (HP2.out.2.2) (SV.out) (by omega) (by omega) (by omega) HX2.out.1 HX2.out.2.1
                  have HC3 := Lib.hid H3
                  clear H3 SV
                  go_wp2_with fail
                  all_goals
                    refine HC3.out.mono ?_
                    rintro e w9 ⟨rfl, d3, hp3, ho3, hs3⟩
                    go_wp2
                    go_end0
                    exact ⟨rfl, d3, permIn_trans _ _ _ _ _ HP2.out.1 (permIn_mono _ _ _ _ _ _ (by omega) (by omega) (by have := HP2.out.2.2; omega) hp3), glue (SortedIn.congrB HP2.out.2.1 (fun i h1 h2 => hp3.2.1 i (.inl h2))) ho3 (cross_perm' (by have := HP2.out.2.2; omega) HX2.out.2.2.2 hp3), hs3⟩
                · by_cases c4 : M < E
                  · have k3 : (M : Int) < (E : Int) := by omega
                    have k4 : ¬ (E : Int) < (b : Int) := by omega
                    go_wp2
                    all_goals
                      go_end0
                      exact ⟨rfl, d2, HP2.out.1, glue HP2.out.2.1 (pick_run (show E = M ∨ E = b by omega) HX2.out.1 HX2.out.2.1) HX2.out.2.2.2, SV.out⟩
                  · have k3 : ¬ (M : Int) < (E : Int) := by omega
                    go_wp2
                    all_goals
                      go_end0
                      exact ⟨rfl, d2, HP2.out.1, glue HP2.out.2.1 (pick_run (show E = M ∨ E = b by omega) HX2.out.1 HX2.out.2.1) HX2.out.2.2.2, SV.out⟩
          · have k5 : ¬ (s : Int) < (m : Int) := by omega
            obtain ⟨d1, hd1⟩ : ∃ d1, d1 = d := ⟨_, rfl⟩
            have SU : Aside (SWK enc k w0 blk off d1 wr) := by rw [hd1]; exact S1
            have HR : Hid (RotR d d1 s m E ∧ PermIn a b d d1 ∧ d1.size = d.size) := by
              rw [hd1]
              exact ⟨rot_none d (show s = m ∨ E = m by omega) (by omega) (by omega), permIn_refl _ _ _, rfl⟩
            clear hd1 S1
            have HX : Hid (SortedIn (ltOf cf) a s d1 ∧ SortedIn (ltOf cf) s M d1 ∧ SortedIn (ltOf cf) M E d1 ∧ SortedIn (ltOf cf) E b d1 ∧ ∀ x y, a ≤ x → x < M → M ≤ y → y < b → ltOf cf d1[y]! d1[x]! = false) := by
              have := halves hS (a := a) (m := m) (b := b) (s := s) (e := E) (by omega) (by omega) (by omega) (by omega) HA.out HB.out HE.out.1 HE.out.2 HR.out.1
              rw [show s + (E - m) = M by omega] at this
              exact this
            by_cases c1 : a < s ∧ s < M
            · have k1 : (a : Int) < (s : Int) := by omega
              have k2 : (s : Int) < (M : Int) := by omega
              have H2 := IH.out a s M d1 wr (by omega) (HR.out.2.2) (SU.out) (by omega) (by omega) (by omega) HX.out.1 (by have := HX.out.2.1; exact this)
              have HC2 := Lib.hid H2
              clear H2 SU
              go_wp2_with fail
              refine HC2.out.mono ?_
              rintro e w8 ⟨rfl, d2, hp2, ho2, hs2⟩
              have SV : Aside (SWK enc k w0 blk off d2 w8) := hs2
              have HP2 : Hid (PermIn a b d d2 ∧ SortedIn (ltOf cf) a M d2 ∧ d2.size = d.size) := ⟨permIn_trans _ _ _ _ _ HR.out.2.1 (permIn_mono _ _ _ _ _ _ (by omega) (by omega) (by have := HR.out.2.2; omega) hp2), ho2, hp2.1.trans HR.out.2.2⟩
              have HX2 : Hid (SortedIn (ltOf cf) M E d2 ∧ SortedIn (ltOf cf) E b d2 ∧ True ∧ ∀ x y, a ≤ x → x < M → M ≤ y → y < b → ltOf cf d2[y]! d2[x]! = false) := ⟨SortedIn.congrB HX.out.2.2.1 (fun i h1 h2 => hp2.2.1 i (.inr h1)), SortedIn.congrB HX.out.2.2.2.1 (fun i h1 h2 => hp2.2.1 i (.inr (by omega))), trivial, cross_perm (by have := HR.out.2.2; omega) (by omega) HX.out.2.2.2.2 hp2⟩
              clear hp2 ho2 hs2 HC2 HR HX
              by_cases c3 : M < E ∧ E < b
              · have k3 : (M : Int) < (E : Int) := by omega
                have k4 : (E : Int) < (b : Int) := by omega
                have H3 := IH.out M E b d2 w8 (by omega) (HP2.out.2.2) (SV.out) (by omega) (by omega) (by omega) HX2.out.1 HX2.out.2.1
                have HC3 := Lib.hid H3
                clear H3 SV
                go_wp2_with fail
                all_goals
                  refine HC3.out.mono ?_
                  rintro e w9 ⟨rfl, d3, hp3, ho3, hs3⟩
                  go_wp2
                  go_end0
                  exact ⟨rfl, d3, permIn_trans _ _ _ _ _ HP2.out.1 (permIn_mono _ _ _ _ _ _ (by omega) (by omega) (by have := HP2.out.2.2; omega) hp3), glue (SortedIn.congrB HP2.out.2.1 (fun i h1 h2 => hp3.2.1 i (.inl h2))) ho3 (cross_perm' (by have := HP2.out.2.2; omega) HX2.out.2.2.2 hp3), hs3⟩
              · by_cases c4 : M < E
                · have k3 : (M : Int) < (E : Int) := by omega
                  have k4 : ¬ (E : Int) < (b : Int) := by omega
                  go_wp2
                  all_goals
                    go_end0
                    exact ⟨rfl, d2, HP2.out.1, glue HP2.out.2.1 (pick_run (show E = M ∨ E = b by omega) HX2.out.1 HX2.out.2.1) HX2.out.2.2.2, SV.out⟩
                · have k3 : ¬ (M : Int) < (E : Int) := by omega
                  go_wp2
                  all_goals
                    go_end0
                    exact ⟨rfl, d2, HP2.out.1, glue HP2.out.2.1 (pick_run (show E = M ∨ E = b by omega) HX2.out.1 HX2.out.2.1) HX2.out.2.2.2, SV.out⟩
            · by_cases c2 : a < s
              · have k1 : (a : Int) < (s : Int) := by omega
                have k2 : ¬ (s : Int) < (M : Int) := by omega
                have SV : Aside (SWK enc k w0 blk off d1 wr) := SU
                obtain ⟨d2, hd2⟩ : ∃ d2, d2 = d1 := ⟨_, rfl⟩
                have HP2 : Hid (PermIn a b d d2 ∧ SortedIn (ltOf cf) a M d2 ∧ d2.size = d.size) := by
                  rw [hd2]
                  exact ⟨HR.out.2.1, pick_run (show s = a ∨ s = M by omega) HX.out.1 HX.out.2.1, HR.out.2.2⟩
                have HX2 : Hid (SortedIn (ltOf cf) M E d2 ∧ SortedIn (ltOf cf) E b d2 ∧ True ∧ ∀ x y, a ≤ x → x < M → M ≤ y → y < b → ltOf cf d2[y]! d2[x]! = false) := by
                  rw [hd2]
                  exact ⟨HX.out.2.2.1, HX.out.2.2.2.1, trivial, HX.out.2.2.2.2⟩
                rw [← hd2] at SV
                clear hd2 SU HR HX
                by_cases c3 : M < E ∧ E < b
                · have k3 : (M : Int) < (E : Int) := by omega
                  have k4 : (E : Int) < (b : Int) := by omega
                  have H3 := IH.out M E b d2 wr (by omega) (HP2.out.2.2) (SV.out) (by omega) (by omega) (by omega) HX2.out.1 HX2.out.2.1
                  have HC3 := Lib.hid H3
                  clear H3 SV
                  go_wp2_with fail
                  all_goals
                    refine HC3.out.mono ?_
                    rintro e w9 ⟨rfl, d3, hp3, ho3, hs3⟩
                    go_wp2
                    go_end0
                    exact ⟨rfl, d3, permIn_trans _ _ _ _ _ HP2.out.1 (permIn_mono _ _ _ _ _ _ (by omega) (by omega) (by have := HP2.out.2.2; omega) hp3), glue (SortedIn.congrB HP2.out.2.1 (fun i h1 h2 => hp3.2.1 i (.inl h2))) ho3 (cross_perm' (by have := HP2.out.2.2; omega) HX2.out.2.2.2 hp3), hs3⟩
                · by_cases c4 : M < E
                  · have k3 : (M : Int) < (E : Int) := by omega
                    have k4 : ¬ (E : Int) < (b : Int) := by omega
                    go_wp2
                    all_goals
                      go_end0
                      exact ⟨rfl, d2, HP2.out.1, glue HP2.out.2.1 (pick_run (show E = M ∨ E = b by omega) HX2.out.1 HX2.out.2.1) HX2.out.2.2.2, SV.out⟩
                  · have k3 : ¬ (M : Int) < (E : Int) := by omega
                    go_wp2
                    all_goals
                      go_end0
                      exact ⟨rfl, d2, HP2.out.1, glue HP2.out.2.1 (pick_run (show E = M ∨ E = b by omega) HX2.out.1 HX2.out.2.1) HX2.out.2.2.2, SV.out⟩
              · have k1 : ¬ (a : Int) < (s : Int) := by omega
                have SV : Aside (SWK enc k w0 blk off d1 wr) := SU
                obtain ⟨d2, hd2⟩ : ∃ d2, d2 = d1 := ⟨_, rfl⟩
                have HP2 : Hid (PermIn a b d d2 ∧ SortedIn (ltOf cf) a M d2 ∧ d2.size = d.size) := by
                  rw [hd2]
                  exact ⟨HR.out.2.1, pick_run (show s = a ∨ s = M by omega) HX.out.1 HX.out.2.1, HR.out.2.2⟩
                have HX2 : Hid (SortedIn (ltOf cf) M E d2 ∧ SortedIn (ltOf cf) E b d2 ∧ True ∧ ∀ x y, a ≤ x → x < M → M ≤ y → y < b → ltOf cf d2[y]! d2[x]! = false) := by
                  rw [hd2]
                  exact ⟨HX.out.2.2.1, HX.out.2.2.2.1, trivial, HX.out.2.2.2.2⟩
                rw [← hd2] at SV
                clear hd2 SU HR HX
                by_cases c3 : M < E ∧ E < b
                · have k3 : (M : Int) < (E : Int) := by omega
                  have k4 : (E : Int) < (b : Int) := by omega
                  have H3 := IH.out M E b d2 wr (by omega) (HP2.out.2.2) (SV.out) (by omega) (by omega) (by omega) HX2.out.1 HX2.out.2.1
                  have HC3 := Lib.hid H3
                  clear H3 SV
                  go_wp2_with fail
                  all_goals
                    refine HC3.out.mono ?_
                    rintro e w9 ⟨rfl, d3, hp3, ho3, hs3⟩
                    go_wp2
                    go_end0
                    exact ⟨rfl, d3, permIn_trans _ _ _ _ _ HP2.out.1 (permIn_mono _ _ _ _ _ _ (by omega) (by omega) (by have := HP2.out.2.2; omega) hp3), glue (SortedIn.congrB HP2.out.2.1 (fun i h1 h2 => hp3.2.1 i (.inl h2))) ho3 (cross_perm' (by have := HP2.out.2.2; omega) HX2.out.2.2.2 hp3), hs3⟩
                · by_cases c4 : M < E
                  · have k3 : (M : Int) < (E : Int) := by omega
                    have k4 : ¬ (E : Int) < (b : Int) := by omega
                    go_wp2
                    all_goals
                      go_end0
                      exact ⟨rfl, d2, HP2.out.1, glue HP2.out.2.1 (pick_run (show E = M ∨ E = b by omega) HX2.out.1 HX2.out.2.1) HX2.out.2.2.2, SV.out⟩
                  · have k3 : ¬ (M : Int) < (E : Int) := by omega
                    go_wp2
                    all_goals
                      go_end0
                      exact ⟨rfl, d2, HP2.out.1, glue HP2.out.2.1 (pick_run (show E = M ∨ E = b by omega) HX2.out.1 HX2.out.2.1) HX2.out.2.2.2, SV.out⟩

/-- symMerge: two sorted runs side by side become one. -/
theorem symMerge_any {k : Nat} (L : HitLays P k) (enc : α → List Value) (cf : α → α → Int) (hS : SWO (ltOf cf)) (g : Nat) (cb : Array Value) (eg : ∀ args w, (callFunc g args).run P w = .ok (.enter g args) w) (blk off cap : Nat) (d0 : Array α) (w0 : World)
    (hcmp : CmpLays P g cb enc k cf blk off d0.size w0) (R : RowK enc k w0 blk off d0) (hsz : d0.size < 4611686018427387904) : ∀ (N a m b : Nat) (d : Array α) (w : World), b - a ≤ N → d.size = d0.size → SWK enc k w0 blk off d w → a < m → m < b → b ≤ d.size →
    SortedIn (ltOf cf) a m d → SortedIn (ltOf cf) m b d →
    Calls P 145 #[.slice (some ⟨blk, off, none⟩) d.size cap, .int .i64 a, .int .i64 m, .int .i64 b, .func (.func g) #[] cb] w (Merged enc k w0 blk off (ltOf cf) d a b) := by
  intro N
  induction N with
  | zero => intro a m b d w h1 h2 h3 h4 h5; omega
  | succ N ih =>
    intro a m b d w hN hs S ham hmb hb hA hB
    by_cases h1 : m = a + 1
    · exact symMerge_a L enc cf hS g cb eg blk off cap a m b d0 d w0 w hcmp R hs S h1 hmb hB hb (by omega)
    · by_cases h2 : b = m + 1
      · exact symMerge_b L enc cf hS g cb eg blk off cap a m b d0 d w0 w hcmp R hs S (by omega) ham h2 hA hb (by omega)
      · refine symMerge_c L enc cf hS g cb eg blk off cap a m b d0 d w0 w hcmp R hs S (by omega) (by omega) hA hB ?_ hb (by omega)
        intro a' m' b' dk wr hlt hdk hS' h3 h4 h5 h6 h7
        have := ih a' m' b' dk wr (by omega) (hdk.trans hs) hS' h3 h4 (by omega) h6 h7
        rw [hdk] at this
        exact this
end Go.Proofs.YtkmngbkghgelfaaGreat
/- The walks of the library's stable sort at hits, at whatever length. -/
namespace Go.Proofs.YtkmngbkghgelfaaGreat
open Go.Shelf Go.RowKit Go.Lib Go.Sort
set_option linter.unusedVariables false
theorem dvd_step {D s a : Nat} (h1 : D ∣ s) (h2 : D ∣ a) (h : s < a) : s + D ≤ a := by
  have := Nat.le_of_dvd (by omega) (Nat.dvd_sub h2 h1)
  omega
/-- Runs of B places, from the multiples of B on, are sorted. -/
def RunsTo (B n a : Nat) (d : Array (Int × Int)) : Prop := ∀ s, B ∣ s → s < a → SortedIn ltH s (min (s + B) n) d
def RunsOn (B n a : Nat) (d : Array (Int × Int)) : Prop := ∀ s, B ∣ s → a ≤ s → SortedIn ltH s (min (s + B) n) d
theorem SortedIn.none {lt : Int × Int → Int × Int → Bool} {a b : Nat} {d : Array (Int × Int)} (h : b ≤ a + 1) : SortedIn lt a b d := fun i j h1 h2 h3 => by omega
theorem RunsTo.step {B n a : Nat} {d d' : Array (Int × Int)} (h : RunsTo B n a d) (ha : B ∣ a) (hp : PermIn a (a + B) d d') (hs : SortedIn ltH a (a + B) d') (hn : a + B ≤ n) : RunsTo B n (a + B) d' := fun s h1 h2 => by
  rcases Nat.lt_trichotomy s a with h3 | h3 | h3
  · exact SortedIn.congrB (h s h1 h3) (fun i h4 h5 => hp.2.1 i (.inl (by have := dvd_step h1 ha h3; omega)))
  · subst h3; rw [Nat.min_eq_left hn]; exact hs
  · have := dvd_step ha h1 h3; omega
/-- The last run. -/
theorem RunsTo.last {B n a : Nat} {d d' : Array (Int × Int)} (h : RunsTo B n a d) (ha : B ∣ a) (hp : PermIn a n d d') (hs : SortedIn ltH a n d') (hn : n < a + B) : RunsOn B n 0 d' := fun s h1 _ => by
  rcases Nat.lt_trichotomy s a with h3 | h3 | h3
  · exact SortedIn.congrB (h s h1 h3) (fun i h4 h5 => hp.2.1 i (.inl (by have := dvd_step h1 ha h3; omega)))
  · subst h3; rw [Nat.min_eq_right (by omega)]; exact hs
  · have := dvd_step ha h1 h3; exact SortedIn.none (by omega)
theorem RunsOn.later {B n a b : Nat} {d d' : Array (Int × Int)} (h : RunsOn B n a d) (hp : PermIn a b d d') (hab : a ≤ b) : RunsOn B n b d' := fun s h1 h2 =>
  SortedIn.congrB (h s h1 (by omega)) (fun i h4 h5 => hp.2.1 i (.inr (by omega)))
theorem RunsOn.at_ {B n a b : Nat} {d : Array (Int × Int)} (h : RunsOn B n a d) {s e : Nat} (hs : B ∣ s) (ha : a ≤ s) (he : min (s + B) n = e) : SortedIn ltH s e d := by
  have := h s hs ha; rw [he] at this; exact this
theorem permIn_glue {n a b : Nat} {d d1 d2 : Array (Int × Int)} (h1 : PermIn 0 n d d1) (hb : b ≤ n) (hn : n ≤ d.size) (h2 : PermIn a b d1 d2) : PermIn 0 n d d2 :=
  permIn_trans _ _ _ _ _ h1 (permIn_mono _ _ _ _ _ _ (Nat.zero_le _) hb (by rw [h1.1]; exact hn) h2)
theorem ins_sw (blk off cap a b : Nat) (d0 dk : Array (Int × Int)) (w0 wr : World) (R : RowK encH 2 w0 blk off d0) (hs : dk.size = d0.size) (S : SWK encH 2 w0 blk off dk wr) (hab : a ≤ b) (hb : b ≤ dk.size) (hsz : dk.size < 4611686018427387904) :
    Calls Tryz.prog 144 #[.slice (some ⟨blk, off, none⟩) dk.size cap, .int .i64 a, .int .i64 b, .func (.func 131) #[] #[]] wr (Merged encH 2 w0 blk off ltH dk a b) := by
  refine (insertion_any cfH 131 #[] blk off cap a b dk wr eg36 (cmpLaysH _ _ _ _) (S.holds R.hblk R.hH hs) (S.lt R.hblk) hab hb hsz).mono ?_
  rintro e w' ⟨rfl, n, os, rfl⟩
  rw [ltOf_cfH]
  have hp := insertionSort_holds swoH dk a b hab hb
  exact ⟨rfl, _, hp.1, hp.2, S.on R.hblk n _ os hp.1.1⟩
theorem sym_sw (blk off cap a m b : Nat) (d0 dk : Array (Int × Int)) (w0 wr : World) (R : RowK encH 2 w0 blk off d0) (hs : dk.size = d0.size) (S : SWK encH 2 w0 blk off dk wr) (ham : a < m) (hmb : m < b) (hb : b ≤ dk.size) (hsz : dk.size < 4611686018427387904)
    (h1 : SortedIn ltH a m dk) (h2 : SortedIn ltH m b dk) :
    Calls Tryz.prog 145 #[.slice (some ⟨blk, off, none⟩) dk.size cap, .int .i64 a, .int .i64 m, .int .i64 b, .func (.func 131) #[] #[]] wr (Merged encH 2 w0 blk off ltH dk a b) := by
  have := symMerge_any hitLays encH cfH (by rw [ltOf_cfH]; exact swoH) 131 #[] eg36 blk off cap d0 w0 (cmpLaysH _ _ _ _) R (by omega) (b - a) a m b dk wr (Nat.le_refl _) hs S ham hmb hb (by rw [ltOf_cfH]; exact h1) (by rw [ltOf_cfH]; exact h2)
  rw [ltOf_cfH] at this
  exact this

set_option maxHeartbeats 4000000 in
set_option maxRecDepth 1000000 in
theorem stable_any (blk off cap : Nat) (d : Array (Int × Int)) (w : World) (hH : HoldsK encH 2 w blk off d) (hblk : blk < w.heap.size) (hsz : d.size < 1152921504606846976) :
    Calls Tryz.prog 139 #[.slice (some ⟨blk, off, none⟩) d.size cap, .int .i64 d.size, .func (.func 131) #[] #[]] w (Merged encH 2 w blk off ltH d 0 d.size) := by
  have R : RowK encH 2 w blk off d := ⟨encH_len, encH_one, hH, hblk⟩
  have INS : Aside (∀ (a b : Nat) (dk : Array (Int × Int)) (wr : World), dk.size = d.size → SWK encH 2 w blk off dk wr → a ≤ b → b ≤ d.size → Calls Tryz.prog 144 #[.slice (some ⟨blk, off, none⟩) d.size cap, .int .i64 a, .int .i64 b, .func (.func 131) #[] #[]] wr (Merged encH 2 w blk off ltH dk a b)) := fun a b dk wr h1 h2 h3 h4 => by
    have := ins_sw blk off cap a b d dk w wr R h1 h2 h3 (by omega) (by omega)
    rw [h1] at this; exact this
  have SYM : Aside (∀ (a m b : Nat) (dk : Array (Int × Int)) (wr : World), dk.size = d.size → SWK encH 2 w blk off dk wr → a < m → m < b → b ≤ d.size → SortedIn ltH a m dk → SortedIn ltH m b dk → Calls Tryz.prog 145 #[.slice (some ⟨blk, off, none⟩) d.size cap, .int .i64 a, .int .i64 m, .int .i64 b, .func (.func 131) #[] #[]] wr (Merged encH 2 w blk off ltH dk a b)) := fun a m b dk wr h1 h2 h3 h4 h5 h6 h7 => by
    have := sym_sw blk off cap a m b d dk w wr R h1 h2 h3 h4 (by omega) (by omega) h6 h7
    rw [h1] at this; exact this
  have S0 : Aside (SWK encH 2 w blk off d w) := SWK.start hH
  clear R hH
  obtain ⟨n, hn⟩ : ∃ n, d.size = n := ⟨_, rfl⟩
  have HN := Lib.hid hn
  rw [hn] at INS SYM hsz ⊢
  clear hn
  go_enter Tryz.func139, Tryz.ntmps139
  go_wp2
  go_loopg [7, 8] n (fun gx s7 s8 wr => ∃ (a : Nat) (dk : Array (Int × Int)), s7 = .int .i64 a ∧ s8 = .int .i64 ((a : Int) + 20) ∧ a ≤ n ∧ n - a ≤ gx ∧ Aside (SWK encH 2 w blk off dk wr) ∧ Hid (20 ∣ a ∧ RunsTo 20 n a dk ∧ PermIn 0 n d dk))
  case atStart => exact ⟨0, d, rfl, rfl, by omega, by omega, S0, (⟨⟨0, rfl⟩, fun s _ h => absurd h (Nat.not_lt_zero _), permIn_refl _ _ _⟩ : 20 ∣ 0 ∧ RunsTo 20 n 0 d ∧ PermIn 0 n d d)⟩
  case round =>
    clear S0
    obtain ⟨a, dk, rfl, rfl, han, hgx, S1, HR⟩ := hrel
    by_cases hlt : a + 20 ≤ n
    · have hltz : (a : Int) + 20 ≤ (n : Int) := by omega
      have H1 := INS.out a (a + 20) dk wr (HR.out.2.2.1.trans HN.out) S1.out (by omega) hlt
      rw [show ((a + 20 : Nat) : Int) = (a : Int) + 20 by omega] at H1
      have HC := Lib.hid H1
      clear H1 S1
      go_wp2_with fail
      refine HC.out.mono ?_
      rintro e w2 ⟨rfl, d2, hp, ho, hs2⟩
      have S2 : Aside (SWK encH 2 w blk off d2 w2) := hs2
      have HR2 : Hid (20 ∣ a + 20 ∧ RunsTo 20 n (a + 20) d2 ∧ PermIn 0 n d d2) := ⟨Nat.dvd_add HR.out.1 ⟨1, rfl⟩, HR.out.2.1.step HR.out.1 hp ho hlt, permIn_glue HR.out.2.2 (by omega) (by have := HN.out; omega) hp⟩
      clear hp ho hs2 HC HR
      go_wp2
      go_roundg (n - (a + 20))
      case measure => omega
      case rel => exact ⟨a + 20, d2, by go_num, by go_num, by omega, by omega, S2, HR2⟩
    · have hltz : ¬ (a : Int) + 20 ≤ (n : Int) := by omega
      have HC := Lib.hid (INS.out a n dk wr (HR.out.2.2.1.trans HN.out) S1.out (by omega) (Nat.le_refl _))
      clear S1
      go_wp2_with fail
      refine HC.out.mono ?_
      rintro e w2 ⟨rfl, d2, hp, ho, hs2⟩
      have S2 : Aside (SWK encH 2 w blk off d2 w2) := hs2
      have HR2 : Hid (RunsOn 20 n 0 d2 ∧ PermIn 0 n d d2) := ⟨HR.out.2.1.last HR.out.1 hp ho (by omega), permIn_glue HR.out.2.2 (Nat.le_refl _) (by have := HN.out; omega) hp⟩
      clear hp ho hs2 HC HR INS
      go_wp2
      go_loopg [6] n (fun gx s6 wr => ∃ (B : Nat) (dk : Array (Int × Int)), s6 = .int .i64 B ∧ 20 ≤ B ∧ B ≤ 2 * n + 20 ∧ n - B ≤ gx ∧ Aside (SWK encH 2 w blk off dk wr) ∧ Hid (RunsOn B n 0 dk ∧ PermIn 0 n d dk))
      case atStart => exact ⟨20, d2, rfl, by omega, by omega, by omega, S2, HR2⟩
      case round =>
        clear S2 HR2 hltz hlt
        obtain ⟨B, dk, rfl, hB20, hBn, hgx, S3, HR3⟩ := hrel
        by_cases hBlt : B < n
        · have hBz : (B : Int) < (n : Int) := by omega
          go_wp2
          go_loopg [7, 8] n (fun gx s7 s8 wr => ∃ (a : Nat) (dk : Array (Int × Int)), s7 = .int .i64 a ∧ s8 = .int .i64 ((a : Int) + 2 * (B : Int)) ∧ a ≤ n ∧ n - a ≤ gx ∧ Aside (SWK encH 2 w blk off dk wr) ∧ Hid (2 * B ∣ a ∧ RunsTo (2 * B) n a dk ∧ RunsOn B n a dk ∧ PermIn 0 n d dk))
          case atStart => exact ⟨0, dk, rfl, by simp, by omega, by omega, S3, (⟨⟨0, rfl⟩, fun s _ h => absurd h (Nat.not_lt_zero _), HR3.out.1, HR3.out.2⟩ : 2 * B ∣ 0 ∧ RunsTo (2 * B) n 0 dk ∧ RunsOn B n 0 dk ∧ PermIn 0 n d dk)⟩
          case round =>
            clear S3 HR3
            obtain ⟨a, dk, rfl, rfl, han, hgx, S4, HR4⟩ := hrel
            have HBa := Lib.hid (Nat.dvd_trans ⟨2, Nat.mul_comm 2 B⟩ HR4.out.1 : B ∣ a)
            by_cases hlt : a + 2 * B ≤ n
            · have hltz : (a : Int) + 2 * (B : Int) ≤ (n : Int) := by omega
              have H1 := SYM.out a (a + B) (a + 2 * B) dk wr (HR4.out.2.2.2.1.trans HN.out) S4.out (by omega) (by omega) hlt (HR4.out.2.2.1.at_ (b := 0) HBa.out (Nat.le_refl _) (by omega)) (HR4.out.2.2.1.at_ (b := 0) (Nat.dvd_add HBa.out ⟨1, by omega⟩) (by omega) (by omega))
              rw [show ((a + 2 * B : Nat) : Int) = (a : Int) + 2 * (B : Int) by omega, show ((a + B : Nat) : Int) = (a : Int) + (B : Int) by omega] at H1
              have HC := Lib.hid H1
              clear H1 S4
              go_wp2_with fail
              refine HC.out.mono ?_
              rintro e w5 ⟨rfl, d5, hp, ho, hs5⟩
              have S5 : Aside (SWK encH 2 w blk off d5 w5) := hs5
              have HR5 : Hid (2 * B ∣ a + 2 * B ∧ RunsTo (2 * B) n (a + 2 * B) d5 ∧ RunsOn B n (a + 2 * B) d5 ∧ PermIn 0 n d d5) := ⟨Nat.dvd_add HR4.out.1 ⟨1, by omega⟩, HR4.out.2.1.step HR4.out.1 hp ho hlt, HR4.out.2.2.1.later hp (by omega), permIn_glue HR4.out.2.2.2 (by omega) (by have := HN.out; omega) hp⟩
              clear hp ho hs5 HC HR4
              go_wp2
              go_roundg (n - (a + 2 * B))
              case measure => omega
              case rel => exact ⟨a + 2 * B, d5, by go_num, by go_num, by omega, by omega, S5, HR5⟩
            · have hltz : ¬ (a : Int) + 2 * (B : Int) ≤ (n : Int) := by omega
              by_cases hm : a + B < n
              · have hmz : (a : Int) + (B : Int) < (n : Int) := by omega
                have H1 := SYM.out a (a + B) n dk wr (HR4.out.2.2.2.1.trans HN.out) S4.out (by omega) (by omega) (Nat.le_refl _) (HR4.out.2.2.1.at_ (b := 0) HBa.out (Nat.le_refl _) (by omega)) (HR4.out.2.2.1.at_ (b := 0) (Nat.dvd_add HBa.out ⟨1, by omega⟩) (by omega) (by omega))
                rw [show ((a + B : Nat) : Int) = (a : Int) + (B : Int) by omega] at H1
                have HC := Lib.hid H1
                clear H1 S4
                go_wp2_with fail
                refine HC.out.mono ?_
                rintro e w5 ⟨rfl, d5, hp, ho, hs5⟩
                have S5 : Aside (SWK encH 2 w blk off d5 w5) := hs5
                have HR5 : Hid (RunsOn (B * 2) n 0 d5 ∧ PermIn 0 n d d5) := ⟨by rw [Nat.mul_comm]; exact HR4.out.2.1.last HR4.out.1 hp ho (by omega), permIn_glue HR4.out.2.2.2 (Nat.le_refl _) (by have := HN.out; omega) hp⟩
                clear hp ho hs5 HC HR4
                go_wp2
                go_roundg (n - B * 2)
                case measure => omega
                case rel => exact ⟨B * 2, d5, by go_num, by omega, by omega, by omega, S5, HR5⟩
              · have hmz : ¬ (a : Int) + (B : Int) < (n : Int) := by omega
                have HR5 : Hid (RunsOn (B * 2) n 0 dk ∧ PermIn 0 n d dk) := ⟨by rw [Nat.mul_comm]; exact HR4.out.2.1.last HR4.out.1 (permIn_refl _ _ _) (HR4.out.2.2.1.at_ (b := 0) HBa.out (Nat.le_refl _) (by omega)) (by omega), HR4.out.2.2.2⟩
                clear HR4
                go_wp2
                go_roundg (n - B * 2)
                case measure => omega
                case rel => exact ⟨B * 2, dk, by go_num, by omega, by omega, by omega, S4, HR5⟩
        · have hBz : ¬ (B : Int) < (n : Int) := by omega
          go_wp2
          go_end0
          exact ⟨rfl, dk, HR3.out.2, HR3.out.1.at_ (b := 0) ⟨0, rfl⟩ (Nat.le_refl _) (by omega), S3.out⟩
/-- The hits of d, the nearest first. -/
def srtH (d : Array (Int × Int)) : List (Int × Int) := d.toList.mergeSort fun x y => !ltH y x
theorem sortStable_any (blk off cap : Nat) (d : Array (Int × Int)) (w : World) (hH : HoldsK encH 2 w blk off d) (hblk : blk < w.heap.size) (hsz : d.size < 1152921504606846976) :
    Calls Tryz.prog 130 #[.slice (some ⟨blk, off, none⟩) d.size cap, .func (.func 131) #[] #[]] w fun e w' => e = .returned (.tuple #[]) ∧ SWK encH 2 w blk off (srtH d).toArray w' := by
  have H := Lib.hid (stable_any blk off cap d w hH hblk hsz)
  clear hH
  go_enter Tryz.func130, Tryz.ntmps130
  go_wp2_with fail
  refine H.out.mono ?_
  rintro e w' ⟨rfl, d', hp, ho, hs⟩
  go_wp2
  go_end0
  refine ⟨rfl, ?_⟩
  have e : d' = (srtH d).toArray := by
    have := sorted_unique_holds (lt := ltH) swoH sepH d d' hp ho
    unfold srtH
    rw [← this]
  rw [← e]
  exact hs
end Go.Proofs.YtkmngbkghgelfaaGreat
