/- The mathematics of a stable sort by blocks that are merged in place: exchanges of two runs, a rotation, a merge by halves. Over plain arrays. -/
import Derived.Sort.LotA
namespace Go.Proofs.Ytfokejlancmahaa
open Go.Sort
set_option linter.unusedVariables false
set_option linter.unusedSectionVars false
variable {α : Type} [Inhabited α]

/-- dk is d, but the first i places from a on and those from b on are exchanged. -/
def SwR (d dk : Array α) (a b i : Nat) : Prop :=
  dk.size = d.size ∧ ∀ t, dk[t]! = if a ≤ t ∧ t < a + i then d[b + (t - a)]! else if b ≤ t ∧ t < b + i then d[a + (t - b)]! else d[t]!
theorem SwR.start (d : Array α) (a b : Nat) : SwR d d a b 0 := ⟨rfl, fun t => by rw [if_neg (by omega), if_neg (by omega)]⟩
theorem SwR.step {d dk : Array α} {a b i : Nat} (h : SwR d dk a b i) (h1 : a + i < b) (h2 : b + i < d.size) : SwR d (swp dk (a + i) (b + i)) a b (i + 1) := by
  have hs := h.1
  refine ⟨by rw [size_swp]; exact hs, fun t => ?_⟩
  rw [swp_get dk (by omega) (by omega)]
  have ea := h.2 (a + i)
  have eb := h.2 (b + i)
  have et := h.2 t
  rw [if_neg (by omega), if_neg (by omega)] at ea eb
  rw [ea, eb, et]
  repeat' split
  all_goals first | rfl | (exfalso; omega) | (congr 1; omega)
/-- r is d, but the runs [a, m) and [m, b) stand the other way round. -/
def RotR (d r : Array α) (a m b : Nat) : Prop :=
  r.size = d.size ∧ ∀ t, r[t]! = if a ≤ t ∧ t < a + (b - m) then d[m + (t - a)]! else if a + (b - m) ≤ t ∧ t < b then d[t - (b - m)]! else d[t]!
theorem RotR.self (d : Array α) (a b : Nat) (h : a ≤ b) : RotR d d a b b := ⟨rfl, fun t => by
  rw [if_neg (by omega)]; split
  · congr 1; omega
  · rfl⟩
theorem RotR.self' (d : Array α) (a b : Nat) (h : a ≤ b) : RotR d d a a b := ⟨rfl, fun t => by
  split
  · congr 1; omega
  · rw [if_neg (by omega)]⟩
/-- What a rotation comes to from the state (i, j) of its loop on. -/
theorem RotR.more {d dk dn r : Array α} {m i j : Nat} (h : SwR dk dn (m - i) m j) (hij : j < i) (him : i ≤ m) (hr : RotR dn r (m - (i - j)) m (m + j)) : RotR dk r (m - i) m (m + j) := by
  refine ⟨hr.1.trans h.1, fun t => ?_⟩
  rw [hr.2 t]
  have e0 := h.2 t
  have e1 := h.2 (m + (t - (m - (i - j))))
  have e2 := h.2 (t - j)
  have e3 : m + j - m = j := by omega
  rw [e3, e1, e2, e0]
  repeat' split
  all_goals first | rfl | (exfalso; omega) | (congr 1; omega)
theorem RotR.less {d dk dn r : Array α} {m i j : Nat} (h : SwR dk dn (m - i) (m + j - i) i) (hij : i < j) (him : i ≤ m) (hr : RotR dn r (m - i) m (m + (j - i))) : RotR dk r (m - i) m (m + j) := by
  refine ⟨hr.1.trans h.1, fun t => ?_⟩
  rw [hr.2 t]
  have e0 := h.2 t
  have e1 := h.2 (m + (t - (m - i)))
  have e2 := h.2 (t - (j - i))
  have e3 : m + j - m = j := by omega
  have e4 : m + (j - i) - m = j - i := by omega
  rw [e3, e4, e1, e2, e0]
  repeat' split
  all_goals first | rfl | (exfalso; omega) | (congr 1; omega)
theorem RotR.last {dk dn : Array α} {m i : Nat} (h : SwR dk dn (m - i) m i) (him : i ≤ m) : RotR dk dn (m - i) m (m + i) := by
  refine ⟨h.1, fun t => ?_⟩
  have e0 := h.2 t
  have e3 : m + i - m = i := by omega
  rw [e3, e0]
  repeat' split
  all_goals first | rfl | (exfalso; omega) | (congr 1; omega)
/-- One exchange more carries the element of place a one place on. -/
theorem RotR.right {d dk : Array α} {a k : Nat} (h : RotR d dk a (a + 1) (k + 1)) (hk : a ≤ k) (hs : k + 1 < d.size) : RotR d (swp dk k (k + 1)) a (a + 1) (k + 1 + 1) := by
  have hz := h.1
  refine ⟨by rw [size_swp]; exact hz, fun t => ?_⟩
  rw [swp_get dk (by omega) (by omega)]
  have ea := h.2 k
  have eb := h.2 (k + 1)
  have et := h.2 t
  rw [if_neg (by omega), if_pos (by omega)] at ea
  rw [if_neg (by omega), if_neg (by omega)] at eb
  rw [ea, eb, et]
  repeat' split
  all_goals first | rfl | (exfalso; omega) | (congr 1; omega)
theorem RotR.left {d dk : Array α} {k m : Nat} (h : RotR d dk (k + 1) m (m + 1)) (hk : k + 1 ≤ m) (hs : m < d.size) : RotR d (swp dk (k + 1) k) k m (m + 1) := by
  have hz := h.1
  refine ⟨by rw [size_swp]; exact hz, fun t => ?_⟩
  rw [swp_get dk (by omega) (by omega)]
  have ea := h.2 k
  have eb := h.2 (k + 1)
  have et := h.2 t
  rw [if_neg (by omega), if_neg (by omega)] at ea
  rw [if_pos (by omega)] at eb
  rw [ea, eb, et]
  repeat' split
  all_goals first | rfl | (exfalso; omega) | (congr 1; omega)

variable {lt : α → α → Bool}
theorem SWO.le_trans (hS : SWO lt) {x y z : α} (h1 : lt y x = false) (h2 : lt z y = false) : lt z x = false := hS.ntrans z y x h2 h1
/-- The first run is one element: it is carried ahead of the first that is not less. -/
theorem ins_right (hS : SWO lt) {d r : Array α} {a b i : Nat} (hab : a + 1 ≤ i) (hib : i ≤ b) (hB : SortedIn lt (a + 1) b d) (h1 : i = a + 1 ∨ lt d[i - 1]! d[a]! = true) (h2 : i = b ∨ lt d[i]! d[a]! = false)
    (hR : RotR d r a (a + 1) i) : SortedIn lt a b r := by
  have k1 : ∀ x, a + 1 ≤ x → x < i → lt d[a]! d[x]! = false := fun x hx hxi => by
    rcases h1 with h | h
    · omega
    · have e : lt d[i - 1]! d[x]! = false := by
        rcases Nat.lt_or_ge x (i - 1) with h3 | h3
        · exact hB x (i - 1) hx h3 (by omega)
        · rw [show x = i - 1 by omega]; exact hS.irrefl _
      exact SWO.le_trans hS e (SWO.asymmA hS h)
  have k2 : ∀ x, i ≤ x → x < b → lt d[x]! d[a]! = false := fun x hx hxb => by
    rcases h2 with h | h
    · omega
    · rcases Nat.lt_or_ge i x with h3 | h3
      · exact SWO.le_trans hS h (hB i x hab h3 hxb)
      · rw [show x = i by omega]; exact h
  intro p q hp hpq hq
  rw [hR.2 p, hR.2 q]
  repeat' split
  all_goals first
    | (exfalso; omega)
    | (refine hB _ _ ?_ ?_ ?_ <;> omega)
    | (rw [show q - (i - (a + 1)) = a by omega]; exact k1 _ (by omega) (by omega))
    | (rw [show p - (i - (a + 1)) = a by omega]; exact k2 _ (by omega) (by omega))
/-- The second run is one element: it is carried behind the last that is not greater. -/
theorem ins_left (hS : SWO lt) {d r : Array α} {a m i : Nat} (hai : a ≤ i) (him : i ≤ m) (hA : SortedIn lt a m d) (h1 : i = a ∨ lt d[m]! d[i - 1]! = false) (h2 : i = m ∨ lt d[m]! d[i]! = true)
    (hR : RotR d r i m (m + 1)) : SortedIn lt a (m + 1) r := by
  have k1 : ∀ x, a ≤ x → x < i → lt d[m]! d[x]! = false := fun x hx hxi => by
    rcases h1 with h | h
    · omega
    · rcases Nat.lt_or_ge x (i - 1) with h3 | h3
      · exact SWO.le_trans hS (hA x (i - 1) hx h3 (by omega)) h
      · rw [show x = i - 1 by omega]; exact h
  have k2 : ∀ x, i ≤ x → x < m → lt d[x]! d[m]! = false := fun x hx hxm => by
    rcases h2 with h | h
    · omega
    · have e : lt d[x]! d[i]! = false := by
        rcases Nat.lt_or_ge i x with h3 | h3
        · exact hA i x hai h3 hxm
        · rw [show x = i by omega]; exact hS.irrefl _
      exact SWO.le_trans hS (SWO.asymmA hS h) e
  intro p q hp hpq hq
  rw [hR.2 p, hR.2 q]
  repeat' split
  all_goals first
    | (exfalso; omega)
    | (refine hA _ _ ?_ ?_ ?_ <;> omega)
    | (rw [show m + (q - i) = m by omega]; exact k1 _ (by omega) (by omega))
    | (rw [show m + (p - i) = m by omega]; exact k2 _ (by omega) (by omega))
/-- Behind the rotation: four sorted runs; nothing of the first half is greater than anything of the second. -/
theorem halves (hS : SWO lt) {d r : Array α} {a m b s e : Nat} (has : a ≤ s) (hsm : s ≤ m) (hme : m ≤ e) (heb : e ≤ b) (hA : SortedIn lt a m d) (hB : SortedIn lt m b d)
    (c1 : s = a ∨ e = b ∨ lt d[e]! d[s - 1]! = false) (c2 : s = m ∨ e = m ∨ lt d[e - 1]! d[s]! = true) (hR : RotR d r s m e) :
    SortedIn lt a s r ∧ SortedIn lt s (s + (e - m)) r ∧ SortedIn lt (s + (e - m)) e r ∧ SortedIn lt e b r ∧ ∀ x y, a ≤ x → x < s + (e - m) → s + (e - m) ≤ y → y < b → lt r[y]! r[x]! = false := by
  have k1 : ∀ x y, a ≤ x → x < s → e ≤ y → y < b → lt d[y]! d[x]! = false := fun x y h1 h2 h3 h4 => by
    rcases c1 with h | h | h
    · omega
    · omega
    · have e1 : lt d[s - 1]! d[x]! = false := by
        rcases Nat.lt_or_ge x (s - 1) with h5 | h5
        · exact hA x (s - 1) h1 h5 (by omega)
        · rw [show x = s - 1 by omega]; exact hS.irrefl _
      have e2 : lt d[y]! d[e]! = false := by
        rcases Nat.lt_or_ge e y with h5 | h5
        · exact hB e y hme h5 h4
        · rw [show y = e by omega]; exact hS.irrefl _
      exact SWO.le_trans hS (SWO.le_trans hS e1 h) e2
  have k2 : ∀ x y, m ≤ x → x < e → s ≤ y → y < m → lt d[y]! d[x]! = false := fun x y h1 h2 h3 h4 => by
    rcases c2 with h | h | h
    · omega
    · omega
    · have e1 : lt d[e - 1]! d[x]! = false := by
        rcases Nat.lt_or_ge x (e - 1) with h5 | h5
        · exact hB x (e - 1) h1 h5 (by omega)
        · rw [show x = e - 1 by omega]; exact hS.irrefl _
      have e2 : lt d[y]! d[s]! = false := by
        rcases Nat.lt_or_ge s y with h5 | h5
        · exact hA s y has h5 h4
        · rw [show y = s by omega]; exact hS.irrefl _
      exact SWO.le_trans hS (SWO.le_trans hS e1 (SWO.asymmA hS h)) e2
  have k3 : ∀ x y, m ≤ x → x < e → e ≤ y → y < b → lt d[y]! d[x]! = false := fun x y h1 h2 h3 h4 => hB x y h1 (by omega) h4
  have k4 : ∀ x y, a ≤ x → x < s → s ≤ y → y < m → lt d[y]! d[x]! = false := fun x y h1 h2 h3 h4 => hA x y h1 (by omega) h4
  refine ⟨?_, ?_, ?_, ?_, ?_⟩
  all_goals
    intro p q h1 h2 h3
    try intro h4
    rw [hR.2 p, hR.2 q]
    repeat' split
    all_goals first
      | (exfalso; omega)
      | (refine hA _ _ ?_ ?_ ?_ <;> omega)
      | (refine hB _ _ ?_ ?_ ?_ <;> omega)
      | (refine k1 _ _ ?_ ?_ ?_ ?_ <;> omega)
      | (refine k2 _ _ ?_ ?_ ?_ ?_ <;> omega)
      | (refine k3 _ _ ?_ ?_ ?_ ?_ <;> omega)
      | (refine k4 _ _ ?_ ?_ ?_ ?_ <;> omega)
/-- Two halves, each sorted, the first not greater than the second. -/
theorem glue {d : Array α} {a m b : Nat} (h1 : SortedIn lt a m d) (h2 : SortedIn lt m b d) (h3 : ∀ x y, a ≤ x → x < m → m ≤ y → y < b → lt d[y]! d[x]! = false) : SortedIn lt a b d := fun p q hp hpq hq => by
  rcases Nat.lt_or_ge q m with h | h
  · exact h1 p q hp hpq h
  · rcases Nat.lt_or_ge p m with h' | h'
    · exact h3 p q hp h' h hq
    · exact h2 p q h' hpq hq
theorem cross_perm {d d' : Array α} {a m b : Nat} (hb : b ≤ d.size) (hm : m ≤ b) (h3 : ∀ x y, a ≤ x → x < m → m ≤ y → y < b → lt d[y]! d[x]! = false) (hp : PermIn a m d d') :
    ∀ x y, a ≤ x → x < m → m ≤ y → y < b → lt d'[y]! d'[x]! = false := fun x y h1 h2 h4 h5 => by
  rw [hp.2.1 y (.inr h4)]
  exact permIn_all d d' a m (fun v => lt d[y]! v = false) (by omega) hp (fun i hi hi' => h3 i y hi hi' h4 h5) x h1 h2
theorem cross_perm' {d d' : Array α} {a m b : Nat} (hb : b ≤ d.size) (h3 : ∀ x y, a ≤ x → x < m → m ≤ y → y < b → lt d[y]! d[x]! = false) (hp : PermIn m b d d') :
    ∀ x y, a ≤ x → x < m → m ≤ y → y < b → lt d'[y]! d'[x]! = false := fun x y h1 h2 h4 h5 => by
  rw [hp.2.1 x (.inl h2)]
  exact permIn_all d d' m b (fun v => lt v d[x]! = false) (by omega) hp (fun i hi hi' => h3 x i h1 h2 hi hi') y h4 h5
end Go.Proofs.Ytfokejlancmahaa
