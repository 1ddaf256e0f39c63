/- Several texts in one. -/
import Derived.Sort.LotA
import Derived.Shelf.SlSortCmp.KitK
import Derived.Sort.WalkB2
import Derived.Sort.WalkB12
import Derived.Deep.LoopGhost
import Derived.Lib.Hide
import Derived.Test.YtkmngbkghgelfaaProg
/- The mathematics of a stable sort by blocks that are merged in place: exchanges of two runs, a rotation, a merge by halves. Over plain arrays. -/
namespace Go.Proofs.Ytkmngbkghgelfaa
open Go.Sort
set_option linter.unusedVariables false
set_option linter.unusedSectionVars false
variable {α : Type} [Inhabited α]

/-- dk is d, but the first i places from a on and those from b on are exchanged. -/
def SwR (d dk : Array α) (a b i : Nat) : Prop :=
  dk.size = d.size ∧ ∀ t, dk[t]! = if a ≤ t ∧ t < a + i then d[b + (t - a)]! else if b ≤ t ∧ t < b + i then d[a + (t - b)]! else d[t]!
theorem SwR.start (d : Array α) (a b : Nat) : SwR d d a b 0 := ⟨rfl, fun t => by rw [if_neg (by omega), if_neg (by omega)]⟩
theorem SwR.step {d dk : Array α} {a b i : Nat} (h : SwR d dk a b i) (h1 : a + i < b) (h2 : b + i < d.size) : SwR d (swp dk (a + i) (b + i)) a b (i + 1) := by
  have hs := h.1
  refine ⟨by rw [size_swp]; exact hs, fun t => ?_⟩
  rw [swp_get dk (by omega) (by omega)]
  have ea := h.2 (a + i)
  have eb := h.2 (b + i)
  have et := h.2 t
  rw [if_neg (by omega), if_neg (by omega)] at ea eb
  rw [ea, eb, et]
  repeat' split
  all_goals first | rfl | (exfalso; omega) | (congr 1; omega)
/-- r is d, but the runs [a, m) and [m, b) stand the other way round. -/
def RotR (d r : Array α) (a m b : Nat) : Prop :=
  r.size = d.size ∧ ∀ t, r[t]! = if a ≤ t ∧ t < a + (b - m) then d[m + (t - a)]! else if a + (b - m) ≤ t ∧ t < b then d[t - (b - m)]! else d[t]!
theorem RotR.self (d : Array α) (a b : Nat) (h : a ≤ b) : RotR d d a b b := ⟨rfl, fun t => by
  rw [if_neg (by omega)]; split
  · congr 1; omega
  · rfl⟩
theorem RotR.self' (d : Array α) (a b : Nat) (h : a ≤ b) : RotR d d a a b := ⟨rfl, fun t => by
  split
  · congr 1; omega
  · rw [if_neg (by omega)]⟩
/-- What a rotation comes to from the state (i, j) of its loop on. -/
theorem RotR.more {d dk dn r : Array α} {m i j : Nat} (h : SwR dk dn (m - i) m j) (hij : j < i) (him : i ≤ m) (hr : RotR dn r (m - (i - j)) m (m + j)) : RotR dk r (m - i) m (m + j) := by
  refine ⟨hr.1.trans h.1, fun t => ?_⟩
  rw [hr.2 t]
  have e0 := h.2 t
  have e1 := h.2 (m + (t - (m - (i - j))))
  have e2 := h.2 (t - j)
  have e3 : m + j - m = j := by omega
  rw [e3, e1, e2, e0]
  repeat' split
  all_goals first | rfl | (exfalso; omega) | (congr 1; omega)
theorem RotR.less {d dk dn r : Array α} {m i j : Nat} (h : SwR dk dn (m - i) (m + j - i) i) (hij : i < j) (him : i ≤ m) (hr : RotR dn r (m - i) m (m + (j - i))) : RotR dk r (m - i) m (m + j) := by
  refine ⟨hr.1.trans h.1, fun t => ?_⟩
  rw [hr.2 t]
  have e0 := h.2 t
  have e1 := h.2 (m + (t - (m - i)))
  have e2 := h.2 (t - (j - i))
  have e3 : m + j - m = j := by omega
  have e4 : m + (j - i) - m = j - i := by omega
  rw [e3, e4, e1, e2, e0]
  repeat' split
  all_goals first | rfl | (exfalso; omega) | (congr 1; omega)
theorem RotR.last {dk dn : Array α} {m i : Nat} (h : SwR dk dn (m - i) m i) (him : i ≤ m) : RotR dk dn (m - i) m (m + i) := by
  refine ⟨h.1, fun t => ?_⟩
  have e0 := h.2 t
  have e3 : m + i - m = i := by omega
  rw [e3, e0]
  repeat' split
  all_goals first | rfl | (exfalso; omega) | (congr 1; omega)
/-- One exchange more carries the element of place a one place on. -/
theorem RotR.right {d dk : Array α} {a k : Nat} (h : RotR d dk a (a + 1) (k + 1)) (hk : a ≤ k) (hs : k + 1 < d.size) : RotR d (swp dk k (k + 1)) a (a + 1) (k + 1 + 1) := by
  have hz := h.1
  refine ⟨by rw [size_swp]; exact hz, fun t => ?_⟩
  rw [swp_get dk (by omega) (by omega)]
  have ea := h.2 k
  have eb := h.2 (k + 1)
  have et := h.2 t
  rw [if_neg (by omega), if_pos (by omega)] at ea
  rw [if_neg (by omega), if_neg (by omega)] at eb
  rw [ea, eb, et]
  repeat' split
  all_goals first | rfl | (exfalso; omega) | (congr 1; omega)
theorem RotR.left {d dk : Array α} {k m : Nat} (h : RotR d dk (k + 1) m (m + 1)) (hk : k + 1 ≤ m) (hs : m < d.size) : RotR d (swp dk (k + 1) k) k m (m + 1) := by
  have hz := h.1
  refine ⟨by rw [size_swp]; exact hz, fun t => ?_⟩
  rw [swp_get dk (by omega) (by omega)]
  have ea := h.2 k
  have eb := h.2 (k + 1)
  have et := h.2 t
  rw [if_neg (by omega), if_neg (by omega)] at ea
  rw [if_pos (by omega)] at eb
  rw [ea, eb, et]
  repeat' split
  all_goals first | rfl | (exfalso; omega) | (congr 1; omega)

variable {lt : α → α → Bool}
theorem SWO.le_trans (hS : SWO lt) {x y z : α} (h1 : lt y x = false) (h2 : lt z y = false) : lt z x = false := hS.ntrans z y x h2 h1
/-- The first run is one element: it is carried ahead of the first that is not less. -/
theorem ins_right (hS : SWO lt) {d r : Array α} {a b i : Nat} (hab : a + 1 ≤ i) (hib : i ≤ b) (hB : SortedIn lt (a + 1) b d) (h1 : i = a + 1 ∨ lt d[i - 1]! d[a]! = true) (h2 : i = b ∨ lt d[i]! d[a]! = false)
    (hR : RotR d r a (a + 1) i) : SortedIn lt a b r := by
  have k1 : ∀ x, a + 1 ≤ x → x < i → lt d[a]! d[x]! = false := fun x hx hxi => by
    rcases h1 with h | h
    · omega
    · have e : lt d[i - 1]! d[x]! = false := by
        rcases Nat.lt_or_ge x (i - 1) with h3 | h3
        · exact hB x (i - 1) hx h3 (by omega)
        · rw [show x = i - 1 by omega]; exact hS.irrefl _
      exact SWO.le_trans hS e (SWO.asymmA hS h)
  have k2 : ∀ x, i ≤ x → x < b → lt d[x]! d[a]! = false := fun x hx hxb => by
    rcases h2 with h | h
    · omega
    · rcases Nat.lt_or_ge i x with h3 | h3
      · exact SWO.le_trans hS h (hB i x hab h3 hxb)
      · rw [show x = i by omega]; exact h
  intro p q hp hpq hq
  rw [hR.2 p, hR.2 q]
  repeat' split
  all_goals first
    | (exfalso; omega)
    | (refine hB _ _ ?_ ?_ ?_ <;> omega)
    | (rw [show q - (i - (a + 1)) = a by omega]; exact k1 _ (by omega) (by omega))
    | (rw [show p - (i - (a + 1)) = a by omega]; exact k2 _ (by omega) (by omega))
/-- The second run is one element: it is carried behind the last that is not greater. -/
theorem ins_left (hS : SWO lt) {d r : Array α} {a m i : Nat} (hai : a ≤ i) (him : i ≤ m) (hA : SortedIn lt a m d) (h1 : i = a ∨ lt d[m]! d[i - 1]! = false) (h2 : i = m ∨ lt d[m]! d[i]! = true)
    (hR : RotR d r i m (m + 1)) : SortedIn lt a (m + 1) r := by
  have k1 : ∀ x, a ≤ x → x < i → lt d[m]! d[x]! = false := fun x hx hxi => by
    rcases h1 with h | h
    · omega
    · rcases Nat.lt_or_ge x (i - 1) with h3 | h3
      · exact SWO.le_trans hS (hA x (i - 1) hx h3 (by omega)) h
      · rw [show x = i - 1 by omega]; exact h
  have k2 : ∀ x, i ≤ x → x < m → lt d[x]! d[m]! = false := fun x hx hxm => by
    rcases h2 with h | h
    · omega
    · have e : lt d[x]! d[i]! = false := by
        rcases Nat.lt_or_ge i x with h3 | h3
        · exact hA i x hai h3 hxm
        · rw [show x = i by omega]; exact hS.irrefl _
      exact SWO.le_trans hS (SWO.asymmA hS h) e
  intro p q hp hpq hq
  rw [hR.2 p, hR.2 q]
  repeat' split
  all_goals first
    | (exfalso; omega)
    | (refine hA _ _ ?_ ?_ ?_ <;> omega)
    | (rw [show m + (q - i) = m by omega]; exact k1 _ (by omega) (by omega))
    | (rw [show m + (p - i) = m by omega]; exact k2 _ (by omega) (by omega))
/-- Behind the rotation: four sorted runs; nothing of the first half is greater than anything of the second. -/
theorem halves (hS : SWO lt) {d r : Array α} {a m b s e : Nat} (has : a ≤ s) (hsm : s ≤ m) (hme : m ≤ e) (heb : e ≤ b) (hA : SortedIn lt a m d) (hB : SortedIn lt m b d)
    (c1 : s = a ∨ e = b ∨ lt d[e]! d[s - 1]! = false) (c2 : s = m ∨ e = m ∨ lt d[e - 1]! d[s]! = true) (hR : RotR d r s m e) :
    SortedIn lt a s r ∧ SortedIn lt s (s + (e - m)) r ∧ SortedIn lt (s + (e - m)) e r ∧ SortedIn lt e b r ∧ ∀ x y, a ≤ x → x < s + (e - m) → s + (e - m) ≤ y → y < b → lt r[y]! r[x]! = false := by
  have k1 : ∀ x y, a ≤ x → x < s → e ≤ y → y < b → lt d[y]! d[x]! = false := fun x y h1 h2 h3 h4 => by
    rcases c1 with h | h | h
    · omega
    · omega
    · have e1 : lt d[s - 1]! d[x]! = false := by
        rcases Nat.lt_or_ge x (s - 1) with h5 | h5
        · exact hA x (s - 1) h1 h5 (by omega)
        · rw [show x = s - 1 by omega]; exact hS.irrefl _
      have e2 : lt d[y]! d[e]! = false := by
        rcases Nat.lt_or_ge e y with h5 | h5
        · exact hB e y hme h5 h4
        · rw [show y = e by omega]; exact hS.irrefl _
      exact SWO.le_trans hS (SWO.le_trans hS e1 h) e2
  have k2 : ∀ x y, m ≤ x → x < e → s ≤ y → y < m → lt d[y]! d[x]! = false := fun x y h1 h2 h3 h4 => by
    rcases c2 with h | h | h
    · omega
    · omega
    · have e1 : lt d[e - 1]! d[x]! = false := by
        rcases Nat.lt_or_ge x (e - 1) with h5 | h5
        · exact hB x (e - 1) h1 h5 (by omega)
        · rw [show x = e - 1 by omega]; exact hS.irrefl _
      have e2 : lt d[y]! d[s]! = false := by
        rcases Nat.lt_or_ge s y with h5 | h5
        · exact hA s y has h5 h4
        · rw [show y = s by omega]; exact hS.irrefl _
      exact SWO.le_trans hS (SWO.le_trans hS e1 (SWO.asymmA hS h)) e2
  have k3 : ∀ x y, m ≤ x → x < e → e ≤ y → y < b → lt d[y]! d[x]! = false := fun x y h1 h2 h3 h4 => hB x y h1 (by omega) h4
  have k4 : ∀ x y, a ≤ x → x < s → s ≤ y → y < m → lt d[y]! d[x]! = false := fun x y h1 h2 h3 h4 => hA x y h1 (by omega) h4
  refine ⟨?_, ?_, ?_, ?_, ?_⟩
  all_goals
    intro p q h1 h2 h3
    try intro h4
    rw [hR.2 p, hR.2 q]
    repeat' split
    all_goals first
      | (exfalso; omega)
      | (refine hA _ _ ?_ ?_ ?_ <;> omega)
      | (refine hB _ _ ?_ ?_ ?_ <;> omega)
      | (refine k1 _ _ ?_ ?_ ?_ ?_ <;> omega)
      | (refine k2 _ _ ?_ ?_ ?_ ?_ <;> omega)
      | (refine k3 _ _ ?_ ?_ ?_ ?_ <;> omega)
      | (refine k4 _ _ ?_ ?_ ?_ ?_ <;> omega)
/-- Two halves, each sorted, the first not greater than the second. -/
theorem glue {d : Array α} {a m b : Nat} (h1 : SortedIn lt a m d) (h2 : SortedIn lt m b d) (h3 : ∀ x y, a ≤ x → x < m → m ≤ y → y < b → lt d[y]! d[x]! = false) : SortedIn lt a b d := fun p q hp hpq hq => by
  rcases Nat.lt_or_ge q m with h | h
  · exact h1 p q hp hpq h
  · rcases Nat.lt_or_ge p m with h' | h'
    · exact h3 p q hp h' h hq
    · exact h2 p q h' hpq hq
theorem cross_perm {d d' : Array α} {a m b : Nat} (hb : b ≤ d.size) (hm : m ≤ b) (h3 : ∀ x y, a ≤ x → x < m → m ≤ y → y < b → lt d[y]! d[x]! = false) (hp : PermIn a m d d') :
    ∀ x y, a ≤ x → x < m → m ≤ y → y < b → lt d'[y]! d'[x]! = false := fun x y h1 h2 h4 h5 => by
  rw [hp.2.1 y (.inr h4)]
  exact permIn_all d d' a m (fun v => lt d[y]! v = false) (by omega) hp (fun i hi hi' => h3 i y hi hi' h4 h5) x h1 h2
theorem cross_perm' {d d' : Array α} {a m b : Nat} (hb : b ≤ d.size) (h3 : ∀ x y, a ≤ x → x < m → m ≤ y → y < b → lt d[y]! d[x]! = false) (hp : PermIn m b d d') :
    ∀ x y, a ≤ x → x < m → m ≤ y → y < b → lt d'[y]! d'[x]! = false := fun x y h1 h2 h4 h5 => by
  rw [hp.2.1 x (.inl h2)]
  exact permIn_all d d' m b (fun v => lt v d[x]! = false) (by omega) hp (fun i hi hi' => h3 x i h1 h2 hi hi') y h4 h5
end Go.Proofs.Ytkmngbkghgelfaa
/- The walks of the library's in-place merge (swapRange, rotate), at elements of k cells: over any program that bears these bodies. -/
namespace Go.Proofs.Ytkmngbkghgelfaa
open Go.Shelf Go.RowKit Go.Lib Go.Sort
set_option linter.unusedVariables false
/-- What is asked of a program: these five bodies, the types that they speak of; an element fills k cells. -/
structure HitLays (P : Program) (k : Nat) : Prop where
  mixed : P.follows .mixedOrders = true
  f79 : P.funcs[56]? = some Try.f56
  c79 : ∀ args w, (callFunc 56 args).run P w = .ok (.enter 56 args) w
  f106 : P.funcs[62]? = some Try.f62
  c106 : ∀ args w, (callFunc 62 args).run P w = .ok (.enter 62 args) w
  f107 : P.funcs[63]? = some Try.f63
  c107 : ∀ args w, (callFunc 63 args).run P w = .ok (.enter 63 args) w
  f108 : P.funcs[64]? = some Try.f64
  c108 : ∀ args w, (callFunc 64 args).run P w = .ok (.enter 64 args) w
  f109 : P.funcs[65]? = some Try.f65
  c109 : ∀ args w, (callFunc 65 args).run P w = .ok (.enter 65 args) w
  t0 : P.underlying 0 = some (TypeDesc.tuple #[])
  a0 : ∀ w, (isAgg 0).run P w = .ok false w
  z0 : ∀ w, (Go.sizeOf 0).run P w = .ok 1 w
  v0 : ∀ w, (zeroValue 0).run P w = .ok (Value.tuple #[]) w
  t3 : P.underlying 3 = some (TypeDesc.int .i64)
  a3 : ∀ w, (isAgg 3).run P w = .ok false w
  z3 : ∀ w, (Go.sizeOf 3).run P w = .ok 1 w
  v3 : ∀ w, (zeroValue 3).run P w = .ok (Value.int .i64 0) w
  t4 : P.underlying 4 = some (TypeDesc.bool)
  a4 : ∀ w, (isAgg 4).run P w = .ok false w
  z4 : ∀ w, (Go.sizeOf 4).run P w = .ok 1 w
  v4 : ∀ w, (zeroValue 4).run P w = .ok (Value.bool false) w
  t29 : P.underlying 33 = some (TypeDesc.slice 46)
  a29 : ∀ w, (isAgg 33).run P w = .ok false w
  z29 : ∀ w, (Go.sizeOf 33).run P w = .ok 1 w
  v29 : ∀ w, (zeroValue 33).run P w = .ok (Value.slice none 0 0) w
  t72 : P.underlying 99 = some (TypeDesc.func #[46, 46] #[3] false)
  a72 : ∀ w, (isAgg 99).run P w = .ok false w
  z72 : ∀ w, (Go.sizeOf 99).run P w = .ok 1 w
  v72 : ∀ w, (zeroValue 99).run P w = .ok (Value.nilFunc) w
  t148 : P.underlying 100 = some (TypeDesc.int .u64)
  a148 : ∀ w, (isAgg 100).run P w = .ok false w
  z148 : ∀ w, (Go.sizeOf 100).run P w = .ok 1 w
  v148 : ∀ w, (zeroValue 100).run P w = .ok (Value.int .u64 0) w
  aE : ∀ w, (isAgg 46).run P w = .ok true w
  zE : ∀ w, (Go.sizeOf 46).run P w = .ok k w
theorem hitLays : HitLays Try.prog 2 where
  mixed := by kernel_rfl
  f79 := Try.func56
  c79 := Try.call56
  f106 := Try.func62
  c106 := Try.call62
  f107 := Try.func63
  c107 := Try.call63
  f108 := Try.func64
  c108 := Try.call64
  f109 := Try.func65
  c109 := Try.call65
  t0 := Try.underlying0
  a0 := Try.isAgg0
  z0 := Try.sizeOf0
  v0 := Try.zeroValue0
  t3 := Try.underlying3
  a3 := Try.isAgg3
  z3 := Try.sizeOf3
  v3 := Try.zeroValue3
  t4 := Try.underlying4
  a4 := Try.isAgg4
  z4 := Try.sizeOf4
  v4 := Try.zeroValue4
  t29 := Try.underlying33
  a29 := Try.isAgg33
  z29 := Try.sizeOf33
  v29 := Try.zeroValue33
  t72 := Try.underlying99
  a72 := Try.isAgg99
  z72 := Try.sizeOf99
  v72 := Try.zeroValue99
  t148 := Try.underlying100
  a148 := Try.isAgg100
  z148 := Try.sizeOf100
  v148 := Try.zeroValue100
  aE := Try.isAgg46
  zE := Try.sizeOf46
variable {P : Program} {α : Type} [Inhabited α]

set_option maxHeartbeats 4000000 in
set_option maxRecDepth 1000000 in
theorem swapRange_any {k : Nat} (L : HitLays P k) (enc : α → List Value) (fv : Value) (blk off cap a b n : Nat) (d0 d : Array α) (w0 w : World)
    (R : RowK enc k w0 blk off d0) (hs : d.size = d0.size) (S : SWK enc k w0 blk off d w) (hab : a + n ≤ b) (hb : b + n ≤ d.size) (hsz : d.size < 4611686018427387904) :
    Calls P 65 #[.slice (some ⟨blk, off, none⟩) d.size cap, .int .i64 a, .int .i64 b, .int .i64 n, fv] w fun e w' => e = .returned (.tuple #[]) ∧ ∃ d', SwR d d' a b n ∧ PermIn a (b + n) d d' ∧ SWK enc k w0 blk off d' w' := by
  have mixed := L.mixed; have t0 := L.t0; have a0 := L.a0; have z0 := L.z0; have v0 := L.v0; have t3 := L.t3; have a3 := L.a3; have z3 := L.z3; have v3 := L.v3; have t4 := L.t4; have a4 := L.a4; have z4 := L.z4; have v4 := L.v4; have t29 := L.t29; have a29 := L.a29; have z29 := L.z29; have v29 := L.v29; have t72 := L.t72; have a72 := L.a72; have z72 := L.z72; have v72 := L.v72; have t148 := L.t148; have a148 := L.a148; have z148 := L.z148; have v148 := L.v148; have u29 := run_underlying L.t29; have aE := L.aE; have zE := L.zE
  have S0 : Aside (SWK enc k w0 blk off d w) := S
  have HS := Lib.hid hs
  clear S hs
  go_enter L.f109, Try.ntmps65
  go_wp2
  go_loopg [10] n (fun g s wr => ∃ (i : Nat) (dk : Array α), s = .int .i64 i ∧ i ≤ n ∧ n - i ≤ g ∧ Aside (SWK enc k w0 blk off dk wr) ∧ Hid (SwR d dk a b i ∧ PermIn a (b + n) d dk))
  case atStart => exact ⟨0, d, rfl, by omega, by omega, S0, (⟨SwR.start d a b, permIn_refl _ _ _⟩ : SwR d d a b 0 ∧ PermIn a (b + n) d d)⟩
  case round =>
    clear S0
    obtain ⟨i, dk, rfl, hin, hg, S1, HR⟩ := hrel
    by_cases hlt : i < n
    · have hltz : (i : Int) < (n : Int) := by omega
      have hds := HR.out.1.1
      have ea : ((a : Int) + (i : Int)).toNat = a + i := by omega
      have pa : (0 : Int) ≤ (a : Int) + (i : Int) := by omega
      have ba : (a : Int) + (i : Int) < (d.size : Int) := by omega
      have ra : IntKind.i64.wrap ((a : Int) + (i : Int)) = (a : Int) + (i : Int) := by rw [IntKind.wrap_i64]; omega
      have ec : ((b : Int) + (i : Int)).toNat = b + i := by omega
      have pc : (0 : Int) ≤ (b : Int) + (i : Int) := by omega
      have bc : (b : Int) + (i : Int) < (d.size : Int) := by omega
      have rc : IntKind.i64.wrap ((b : Int) + (i : Int)) = (b : Int) + (i : Int) := by rw [IntKind.wrap_i64]; omega
      have hd0 : dk.size = d0.size := hds.trans HS.out
      have S2 : Aside (SWK enc k w0 blk off (swp dk (a + i) (b + i)) ((wr.drew.setCells blk (off + (a + i) * k) (enc dk[b + i]!)).setCells blk (off + (b + i) * k) (enc dk[a + i]!))) := S1.out.swapped R (a + i) (b + i) (by omega) (by omega)
      have la := S1.out.ld1 R hd0 P (a + i) (by omega)
      have lb := S1.out.ld1 R hd0 P (b + i) (by omega)
      have sa := S1.out.st1 R hd0 P (a + i) (by omega) dk[b + i]!
      have sb := S1.out.st2 R hd0 P (a + i) (b + i) (by omega) (by omega) dk[b + i]! dk[a + i]!
      have na : (enc dk[a + i]!).length = k := R.hk _
      have nb : (enc dk[b + i]!).length = k := R.hk _
      have HN : Hid (SwR d (swp dk (a + i) (b + i)) a b (i + 1) ∧ PermIn a (b + n) d (swp dk (a + i) (b + i))) := ⟨HR.out.1.step (by omega) (by omega), permIn_trans _ _ _ _ _ HR.out.2 (swp_permIn dk a (b + n) _ _ (by omega) (by omega) (by omega) (by omega) (by omega))⟩
      clear hds hd0
      generalize enc dk[a + i]! = cI at S2 la sb na
      generalize enc dk[b + i]! = cJ at S2 lb sa sb nb
      clear S1 HR
      go_wp2_with fail
      go_big_region_o
      clear la lb sa sb
      generalize (wr.drew.setCells blk (off + (a + i) * k) cJ).setCells blk (off + (b + i) * k) cI = w2 at S2 ⊢
      go_wp2
      go_roundg (n - (i + 1))
      case measure => omega
      case rel => exact ⟨i + 1, _, by simp, by omega, by omega, S2, HN⟩
    · have hltz : ¬ (i : Int) < (n : Int) := by omega
      go_wp2
      go_end0
      obtain rfl : i = n := by omega
      exact ⟨rfl, dk, HR.out.1, HR.out.2, S1.out⟩

set_option maxHeartbeats 4000000 in
set_option maxRecDepth 1000000 in
theorem rotate_any {k : Nat} (L : HitLays P k) (enc : α → List Value) (fv : Value) (blk off cap a m b : Nat) (d0 d : Array α) (w0 w : World)
    (R : RowK enc k w0 blk off d0) (hs : d.size = d0.size) (S : SWK enc k w0 blk off d w) (ham : a < m) (hmb : m < b) (hb : b ≤ d.size) (hsz : d.size < 4611686018427387904) :
    Calls P 64 #[.slice (some ⟨blk, off, none⟩) d.size cap, .int .i64 a, .int .i64 m, .int .i64 b, fv] w fun e w' => e = .returned (.tuple #[]) ∧ ∃ d', RotR d d' a m b ∧ PermIn a b d d' ∧ SWK enc k w0 blk off d' w' := by
  have mixed := L.mixed; have t0 := L.t0; have a0 := L.a0; have z0 := L.z0; have v0 := L.v0; have t3 := L.t3; have a3 := L.a3; have z3 := L.z3; have v3 := L.v3; have t4 := L.t4; have a4 := L.a4; have z4 := L.z4; have v4 := L.v4; have t29 := L.t29; have a29 := L.a29; have z29 := L.z29; have v29 := L.v29; have t72 := L.t72; have a72 := L.a72; have z72 := L.z72; have v72 := L.v72; have t148 := L.t148; have a148 := L.a148; have z148 := L.z148; have v148 := L.v148; have u29 := run_underlying L.t29; have aE := L.aE; have zE := L.zE
  have c109 := L.c109
  have S0 : Aside (SWK enc k w0 blk off d w) := S
  have HS := Lib.hid hs
  have CALL : Aside (∀ (x y n : Nat) (dk : Array α) (wr : World), dk.size = d.size → SWK enc k w0 blk off dk wr → x + n ≤ y → y + n ≤ d.size → Calls P 65 #[.slice (some ⟨blk, off, none⟩) d.size cap, .int .i64 x, .int .i64 y, .int .i64 n, fv] wr fun e w' => e = .returned (.tuple #[]) ∧ ∃ d', SwR dk d' x y n ∧ PermIn x (y + n) dk d' ∧ SWK enc k w0 blk off d' w') := fun x y n dk wr h1 h2 h3 h4 => by
    have := swapRange_any L enc fv blk off cap x y n d0 dk w0 wr R (h1.trans hs) h2 h3 (by omega) (by omega)
    rw [h1] at this
    exact this
  clear S hs
  have eA : ((m - a : Nat) : Int) = (m : Int) - (a : Int) := by omega
  have eB : ((b - m : Nat) : Int) = (b : Int) - (m : Int) := by omega
  have EA := Lib.hid eA
  have EB := Lib.hid eB
  clear eA eB
  go_enter L.f108, Try.ntmps64
  go_wp2
  go_loopg [10, 11] (b - a) (fun g s10 s11 wr => ∃ (i j : Nat) (dk : Array α), s10 = .int .i64 i ∧ s11 = .int .i64 j ∧ 1 ≤ i ∧ 1 ≤ j ∧ i ≤ m - a ∧ j ≤ b - m ∧ i + j ≤ g ∧ Aside (SWK enc k w0 blk off dk wr) ∧ Hid ((∀ r, RotR dk r (m - i) m (m + j) → RotR d r a m b) ∧ PermIn a b d dk))
  case atStart => exact ⟨m - a, b - m, d, by rw [EA.out], by rw [EB.out], by omega, by omega, by omega, by omega, by omega, S0, (⟨fun r hr => by rw [show m - (m - a) = a by omega, show m + (b - m) = b by omega] at hr; exact hr, permIn_refl _ _ _⟩ : (∀ r, RotR d r (m - (m - a)) m (m + (b - m)) → RotR d r a m b) ∧ PermIn a b d d)⟩
  case round =>
    clear S0
    obtain ⟨i, j, dk, rfl, rfl, hi1, hj1, hia, hjb, hg, S1, HR⟩ := hrel
    have hds := HR.out.2.1
    have EI := Lib.hid (show ((m - i : Nat) : Int) = (m : Int) - (i : Int) by omega)
    rcases Nat.lt_trichotomy i j with hij | hij | hij
    · have n1 : ((i : Int) != (j : Int)) = true := by simp; omega
      have n2 : ¬ (j : Int) < (i : Int) := by omega
      have EJ := Lib.hid (show ((m + j - i : Nat) : Int) = (m : Int) + (j : Int) - (i : Int) by omega)
      have H := CALL.out (m - i) (m + j - i) i dk wr hds S1.out (by omega) (by omega)
      rw [EI.out, EJ.out] at H
      have HC := Lib.hid H
      clear H hds S1
      go_wp2_with fail
      refine HC.out.mono ?_
      rintro e w2 ⟨rfl, d2, hSw, hP2, hS2⟩
      have S2 : Aside (SWK enc k w0 blk off d2 w2) := hS2
      have HN : Hid ((∀ r, RotR d2 r (m - i) m (m + (j - i)) → RotR d r a m b) ∧ PermIn a b d d2) := ⟨fun r hr => HR.out.1 r (RotR.less (d := d) hSw hij (by omega) hr), permIn_trans _ _ _ _ _ HR.out.2 (permIn_mono _ _ _ _ _ _ (by omega) (by omega) (by have := HR.out.2.1; omega) hP2)⟩
      clear hSw hP2 hS2 HC HR EJ EI
      have EK := Lib.hid (show ((j - i : Nat) : Int) = (j : Int) - (i : Int) by omega)
      go_wp2
      go_roundg (i + (j - i))
      case measure => omega
      case rel => exact ⟨i, j - i, d2, rfl, by rw [EK.out], by omega, by omega, by omega, by omega, by omega, S2, HN⟩
    · subst hij
      have H := CALL.out (m - i) m i dk wr hds S1.out (by omega) (by omega)
      rw [EI.out] at H
      have HC := Lib.hid H
      have n1 : ((i : Int) != (i : Int)) = false := by simp
      clear H hds S1
      go_wp2_with fail
      refine HC.out.mono ?_
      rintro e w2 ⟨rfl, d2, hSw, hP2, hS2⟩
      go_wp2
      go_end0
      exact ⟨rfl, d2, HR.out.1 _ (RotR.last hSw (by omega)), permIn_trans _ _ _ _ _ HR.out.2 (permIn_mono _ _ _ _ _ _ (by omega) (by omega) (by have := HR.out.2.1; omega) hP2), hS2⟩
    · have n1 : ((i : Int) != (j : Int)) = true := by simp; omega
      have n2 : (j : Int) < (i : Int) := by omega
      have H := CALL.out (m - i) m j dk wr hds S1.out (by omega) (by omega)
      rw [EI.out] at H
      have HC := Lib.hid H
      clear H hds S1
      go_wp2_with fail
      refine HC.out.mono ?_
      rintro e w2 ⟨rfl, d2, hSw, hP2, hS2⟩
      have S2 : Aside (SWK enc k w0 blk off d2 w2) := hS2
      have HN : Hid ((∀ r, RotR d2 r (m - (i - j)) m (m + j) → RotR d r a m b) ∧ PermIn a b d d2) := ⟨fun r hr => HR.out.1 r (RotR.more (d := d) hSw hij (by omega) hr), permIn_trans _ _ _ _ _ HR.out.2 (permIn_mono _ _ _ _ _ _ (by omega) (by omega) (by have := HR.out.2.1; omega) hP2)⟩
      clear hSw hP2 hS2 HC HR EI
      have EK := Lib.hid (show ((i - j : Nat) : Int) = (i : Int) - (j : Int) by omega)
      go_wp2
      go_roundg (i - j + j)
      case measure => omega
      case rel => exact ⟨i - j, j, d2, by rw [EK.out], rfl, by omega, by omega, by omega, by omega, by omega, S2, HN⟩
end Go.Proofs.Ytkmngbkghgelfaa
