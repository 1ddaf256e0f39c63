/- The walks of layer 2 (sums): the closure that takes a byte's bits off, its maker, the table, More, Sum. -/
import Derived.Test.YtfjigfmjhfoecaaProg
import Derived.Test.YtfjigfmjhfoecaaA
import Derived.Test.YtfjigfmjhfoecaaM
import Derived.WalkKit
import Derived.WalkSpells
import Derived.WalkLawsBesides
import Derived.Below
import Derived.Lib.Hide
import Derived.Deep.QuietTactic
import Derived.BigQuiet
import Derived.Deep.WholeRow
import Derived.Laws.CopyOwn
namespace Go.Proofs.Ytfjigfmjhfoecaa
open Go.RowKit
set_option linter.unusedVariables false

theorem and_one {y : Nat} (hl : y < 4294967296) : bits .and .u32 (y : Int) 1 = ((y % 2 : Nat) : Int) := by
  have := u32_and_nat y 1 hl (by omega)
  rw [nat_mask1] at this
  exact this
theorem sh_odd {y : Nat} (hl : y < 4294967296) (h : (bits .and .u32 (y : Int) 1 == 1) = true) : bits .xor .u32 ((y : Int) / 2) 2197175160 = ((sh y : Nat) : Int) := by
  rw [and_one hl] at h
  have h1 : y % 2 = 1 := by have := eq_of_beq h; omega
  have := u32_xor_nat (y / 2) 2197175160 (by omega) (by omega)
  unfold sh
  rw [if_pos h1]
  exact this
theorem sh_even {y : Nat} (hl : y < 4294967296) (h : (bits .and .u32 (y : Int) 1 == 1) = false) : (y : Int) / 2 = ((sh y : Nat) : Int) := by
  rw [and_one hl] at h
  have h1 : ¬ y % 2 = 1 := by intro hh; rw [hh] at h; simp at h
  unfold sh
  rw [if_neg h1]
  rfl
set_option maxHeartbeats 400000 in
theorem entry_any (x : Nat) (hx : x < 4294967296) (g : Nat) (w : World) (hg : w.cell? ⟨g, 0, none⟩ = some (.int .u32 2197175160)) :
    Calls Try.prog 20 #[.int .u32 x, .pointer (some ⟨g, 0, none⟩)] w fun e w' => e = .returned (.int .u32 (shs 8 x : Nat)) ∧ w = w' := by
  go_enter Try.func20, Try.ntmps20
  go_wp2
  go_loop [0, 5] (fun v i => ∃ k : Nat, k ≤ 8 ∧ i = .int .i64 k ∧ v = .int .u32 (shs k x : Nat)) (fun _ i => 8 - (intOf i).toNat)
  case atStart => exact ⟨0, by omega, rfl, rfl⟩
  case round =>
    obtain ⟨k, hk, rfl, rfl⟩ := hrel
    have hl := shs_lt k hx
    have HS := Lib.hid (shs_succ k x)
    obtain ⟨y, hy⟩ : ∃ y, shs k x = y := ⟨_, rfl⟩
    rw [hy] at HS hl ⊢
    by_cases hlt : k < 8
    · clear hy
      go_wp2
      all_goals
        go_round
        case rel => exact ⟨k + 1, by omega, by go_num, by rw [HS.out]; first | rw [sh_odd hl ‹_›] | rw [← sh_even hl ‹_›]⟩
        case measure => simp [intOf]; omega
    · obtain rfl : k = 8 := by omega
      clear HS
      go_wp2
      go_ret
      exact ⟨rfl, rfl⟩
theorem mkf : ∀ (fn : Fn) (first cap : Array Value) (w : World), (Instr.makeFunc fn first cap).run Try.prog w = .ok (.func fn first cap) w := fun _ _ _ _ => rfl
theorem shifter_any (w : World) : Calls Try.prog 19 #[.int .u32 2197175160] w fun e w' => e = .returned (.func (.func 20) #[] #[.pointer (some ⟨w.heap.size, 0, none⟩)]) ∧ w' = w.alloc (.cells #[.int .u32 2197175160] 24) := by
  have hmf := mkf
  go_enter Try.func19, Try.ntmps19
  go_wp2
  go_ret
  exact ⟨rfl, rfl⟩
/-- The table, as far as it is filled. -/
def tab (k : Nat) : Array Value := Array.ofFn (n := 256) fun i => if i.val < k then .int .u32 (shs 8 i.val : Nat) else .int .u32 0
theorem tab_size (k : Nat) : (tab k).size = 256 := by unfold tab; exact Array.size_ofFn
theorem tab_zero : tab 0 = Array.replicate 256 (.int .u32 0) := by
  unfold tab
  apply Array.ext
  · simp
  · intro i h1 h2
    simp
theorem tab_get (k i : Nat) (hi : i < 256) : (tab k)[i]? = some (if i < k then .int .u32 (shs 8 i : Nat) else .int .u32 0) := by
  unfold tab
  rw [Array.getElem?_ofFn, dif_pos hi]
theorem tab_set (k : Nat) (hk : k < 256) : (tab k).setIfInBounds k (.int .u32 (shs 8 k : Nat)) = tab (k + 1) := by
  apply Array.ext_getElem?
  intro i
  rw [Array.getElem?_setIfInBounds]
  by_cases hi : i < 256
  · rw [tab_get _ _ hi, tab_get _ _ hi]
    by_cases e : k = i
    · subst e; rw [if_pos rfl, if_pos (by rw [tab_size]; exact hk), if_pos (by omega)]
    · rw [if_neg e]
      congr 1
      by_cases h : i < k
      · rw [if_pos h, if_pos (by omega)]
      · rw [if_neg h, if_neg (by omega)]
  · rw [Array.getElem?_eq_none (by rw [tab_size]; omega), Array.getElem?_eq_none (by rw [tab_size]; omega)]
    rw [if_neg (by omega)]
theorem tab_one (k : Nat) : (tab k).all (·.oneCell') = true := by
  rw [Array.all_eq_true]
  intro i hi
  have hi' : i < 256 := by rw [tab_size] at hi; exact hi
  have := tab_get k i hi'
  rw [Array.getElem?_eq_getElem hi] at this
  rw [Option.some.inj this]
  split <;> rfl
theorem zero41 : (Try.prog.info? 41).map (fun i => (i.zero, i.size)) = some (some (.agg (Array.replicate 256 (.int .u32 0))), 256) := by kernel_rfl
/-- Block g is just the cells cs, of element type t, none frozen. -/
def Whole (w : World) (g : Nat) (t : TypeId) (cs : Array Value) : Prop := w.heap[g]? = some (.cells cs t (0, 0))
theorem Whole.cell {w : World} {g : Nat} {t : TypeId} {cs : Array Value} (h : Whole w g t cs) (i : Nat) : w.cell? ⟨g, i, none⟩ = cs[i]? := cell_of_row w g i cs t (0, 0) h
theorem Whole.frozen {w : World} {g : Nat} {t : TypeId} {cs : Array Value} (h : Whole w g t cs) (i : Nat) : w.frozen? ⟨g, i, none⟩ = false := frozen_of_row w g i cs t h
theorem Whole.new (w : World) (t : TypeId) (cs : Array Value) : Whole (w.alloc (.cells cs t)) w.heap.size t cs := heap_alloc_new w _
theorem Whole.lt {w : World} {g : Nat} {t : TypeId} {cs : Array Value} (h : Whole w g t cs) : g < w.heap.size := (Array.getElem?_eq_some_iff.1 h).1
theorem Whole.alloc {w : World} {g : Nat} {t : TypeId} {cs : Array Value} (h : Whole w g t cs) (o : Obj) : Whole (w.alloc o) g t cs := (Below.heap_alloc w o g h.lt).trans h
theorem Whole.set {w : World} {g : Nat} {t : TypeId} {cs : Array Value} (h : Whole w g t cs) (i : Nat) (v : Value) : Whole (w.setCell ⟨g, i, none⟩ v) g t (cs.setIfInBounds i v) := heap_setCell_same w g i cs t v h
theorem Whole.far {w : World} {g : Nat} {t : TypeId} {cs : Array Value} (h : Whole w g t cs) {a : Addr} (ha : g ≠ a.block) (v : Value) : Whole (w.setCell a v) g t cs := (heap_setCell_other w a g v ha).trans h
theorem Whole.below {w w' : World} {B g : Nat} {t : TypeId} {cs : Array Value} (h : Whole w g t cs) (hb : Below B w w') (hg : g < B) : Whole w' g t cs := (hb.block g hg).trans h
set_option maxRecDepth 100000 in
set_option maxHeartbeats 400000 in
theorem tableOf_any (g : Nat) (w : World) (hg : w.cell? ⟨g, 0, none⟩ = some (.int .u32 2197175160)) (hgl : g < w.heap.size) :
    Calls Try.prog 18 #[.func (.func 20) #[] #[.pointer (some ⟨g, 0, none⟩)]] w fun e w' => e = .returned (.agg (tab 256)) ∧ Below w.heap.size w w' := by
  obtain ⟨hz, hsz⟩ := zero_of_info zero41
  rw [← tab_zero] at hz
  have HSZ := Lib.hid hsz
  clear hsz
  have hw2 : Whole ((w.alloc (.cells (tab 0) 41)).alloc (.cells (tab 0) 41)) w.heap.size 41 (tab 0) := (Whole.new _ _ _).alloc _
  have hw3 : Whole ((w.alloc (.cells (tab 0) 41)).alloc (.cells (tab 0) 41)) (w.heap.size + 1) 41 (tab 0) := by simpa using Whole.new (w.alloc (.cells (tab 0) 41)) 41 (tab 0)
  have hB : Below w.heap.size w ((w.alloc (.cells (tab 0) 41)).alloc (.cells (tab 0) 41)) := ((Below.refl _ _).alloc (Nat.le_refl _) _).alloc (by simp) _
  go_enter Try.func18, Try.ntmps18
  go_wp2
  go_loopw [5] (fun i wr => ∃ k : Nat, k ≤ 256 ∧ i = .int .i64 k ∧ Whole wr w.heap.size 41 (tab 0) ∧ Whole wr (w.heap.size + 1) 41 (tab k) ∧ Below w.heap.size w wr) (fun i _ => 256 - (intOf i).toNat)
  case atStart => exact ⟨0, by omega, rfl, hw2, hw3, hB⟩
  case round =>
    clear hw2 hw3 hB hz
    obtain ⟨k, hk, rfl, hw2, hw3, hB⟩ := hrel
    have hg' : wr.cell? ⟨g, 0, none⟩ = some (.int .u32 2197175160) := (hB.cell (p := ⟨g, 0, none⟩) hgl).trans hg
    by_cases hlt : k < 256
    · have H20 := Lib.hid (entry_any k (by omega) g wr hg')
      have hck : wr.cell? ⟨w.heap.size + 1, k, none⟩ = some (.int .u32 0) := by rw [hw3.cell, tab_get _ _ hlt, if_neg (by omega)]
      have hfk := hw3.frozen k
      have hw2' := Lib.hid (hw2.far (a := ⟨w.heap.size + 1, k, none⟩) (by simp) (.int .u32 (shs 8 k : Nat)))
      have hw3' : Whole (wr.setCell ⟨w.heap.size + 1, k, none⟩ (.int .u32 (shs 8 k : Nat))) (w.heap.size + 1) 41 (tab (k + 1)) := by rw [← tab_set k hlt]; exact hw3.set k _
      have hB' := hB.setCell (p := ⟨w.heap.size + 1, k, none⟩) (by simp) (.int .u32 (shs 8 k : Nat))
      clear hg' hw2 hw3 hB
      go_wp2_with fail
      refine H20.out.mono ?_
      rintro e w' ⟨rfl, rfl⟩
      go_wp2
      go_roundw
      case rel => exact ⟨k + 1, by omega, by go_num, hw2'.out, hw3', hB'⟩
      case measure => simp [intOf]; omega
    · obtain rfl : k = 256 := by omega
      have h41 : (Try.prog.info? 41).map (·.size) = some (tab 256).size := by rw [tab_size]; exact HSZ.out
      have H41 := Lib.hid h41
      clear h41 HSZ hg' hg
      go_wp2_with (first
        | refine wpList_load_row rfl 41 (.tmp 3) rfl (w.heap.size + 1) rfl 41 (tab 256) (0, 0) _ hw3 Try.underlying41 rfl H41.out ?_
        | refine wpList_store_row rfl 41 (.tmp 2) (.tmp 15) rfl w.heap.size (tab 256) rfl rfl 41 (tab 0) hw2 H41.out (by rw [tab_size, tab_size]) (tab_one 256) ?_)
      refine bodyPost_ret (v := .agg (tab 256)) ?_ rfl ⟨rfl, below_setRow hB (Nat.le_refl _) _⟩
      exact results_cell_row rfl _ _ w.heap.size 41 (tab 256) (0, 0) _ rfl (setRow_heap _ _ _ _ _ _ hw2) Try.underlying41 rfl H41.out
def nats (xs : List Int) : List Nat := xs.map Int.toNat
theorem nats_bytes {xs : List Int} (hb : ∀ x ∈ xs, 0 ≤ x ∧ x ≤ 255) : ∀ c ∈ nats xs, c < 256 := fun c hc => by
  unfold nats at hc
  obtain ⟨x, hx, rfl⟩ := List.mem_map.1 hc
  have := hb x hx
  omega
theorem fld_take {xs : List Int} {k : Nat} {v : Nat} (x : Nat) (hk : k < xs.length) (hv : xs[k]?.getD 0 = (v : Int)) : fld x (nats (xs.take (k + 1))) = stp (fld x (nats (xs.take k))) v := by
  rw [List.take_succ_eq_append_getElem hk]
  rw [List.getElem?_eq_getElem hk] at hv
  simp only [Option.getD_some] at hv
  rw [hv]
  unfold nats
  rw [List.map_append, fld_append]
  rfl
theorem turned {s : Nat} (hs : s < 4294967296) : bits .xor .u32 IntKind.u32.max (s : Int) = ((s ^^^ 4294967295 : Nat) : Int) := by
  rw [Nat.xor_comm]
  exact u32_xor_nat 4294967295 s (by omega) hs
theorem table_step {y v : Nat} (hy : y < 4294967296) (hv : v < 256) :
    ∃ j t : Nat, bits .xor .u8 ((y : Int) % 256) (v : Int) = (j : Int) ∧ j < 256 ∧ (tab 256)[j]? = some (.int .u32 (t : Int)) ∧ bits .xor .u32 (t : Int) ((y : Int) / 256) = ((stp y v : Nat) : Int) := by
  have hj : (y % 256) ^^^ v < 256 := Nat.xor_lt_two_pow (n := 8) (by omega) (by omega)
  refine ⟨(y % 256) ^^^ v, shs 8 ((y % 256) ^^^ v), ?_, hj, ?_, ?_⟩
  · exact u8_xor_nat (y % 256) v (by omega) hv
  · rw [tab_get _ _ hj, if_pos hj]
  · rw [stp_table hv]
    exact u32_xor_nat (shs 8 ((y % 256) ^^^ v)) (y / 256) (shs_lt 8 (by omega)) (by omega)
set_option maxRecDepth 100000 in
set_option maxHeartbeats 400000 in
theorem more_any (s : Nat) (hs : s < 4294967296) (A : Option Addr) (c : Nat) (xs : List Int) (n : Nat) (hn : n = xs.length) (w : World) (hx : Rd .u8 w w.heap.size A xs) (hb : ∀ x ∈ xs, 0 ≤ x ∧ x ≤ 255) (hl : xs.length ≤ 1048576) (hc : xs.length ≤ c) :
    Calls Try.prog 14 #[.int .u32 s, .slice A n c] w fun e w' => e = .returned (.tuple #[.int .u32 (more s (nats xs) : Nat), .int .i64 0]) ∧ Below w.heap.size w w' := by
  subst hn
  obtain ⟨hz, hsz⟩ := zero_of_info zero41
  rw [← tab_zero] at hz
  have h41 : (Try.prog.info? 41).map (·.size) = some (tab 256).size := by rw [tab_size]; exact hsz
  have H41 := Lib.hid h41
  clear hsz h41
  have H19 := Lib.hid (shifter_any w)
  obtain ⟨w1, hw1⟩ : ∃ w1, w.alloc (.cells #[.int .u32 2197175160] 24) = w1 := ⟨_, rfl⟩
  rw [hw1] at H19
  have hs1 : w.heap.size < w1.heap.size := by rw [← hw1]; simp
  have hB1 : Below w.heap.size w w1 := by rw [← hw1]; exact (Below.refl _ _).alloc (Nat.le_refl _) _
  have H18 := Lib.hid (tableOf_any w.heap.size w1 (by rw [← hw1]; simp [go_sem]) hs1)
  clear hw1
  go_enter Try.func14, Try.ntmps14
  go_wp2_with fail
  refine H19.out.mono ?_
  rintro e w' ⟨rfl, rfl⟩
  go_wp2_with fail
  refine H18.out.mono ?_
  rintro e w2 ⟨rfl, hB2⟩
  have hs2 := hB2.size
  have hW := Whole.new w2 41 (tab 0)
  have hB3 : Below w.heap.size w (w2.alloc (.cells (tab 0) 41)) := (hB1.trans (hB2.mono (by omega))).alloc (by omega) _
  go_wp2_with (refine wpList_store_row rfl 41 (.tmp 6) (.tmp 14) rfl w2.heap.size (tab 256) rfl rfl 41 (tab 0) hW H41.out (by rw [tab_size, tab_size]) (tab_one 256) ?_)
  have hW3 : Whole ((w2.alloc (.cells (tab 0) 41)).setRow w2.heap.size (tab 256)) w2.heap.size 41 (tab 256) := setRow_heap _ _ _ _ _ _ hW
  have hB4 := below_setRow hB3 (show w.heap.size ≤ w2.heap.size by omega) (tab 256)
  rw [turned hs]
  generalize (w2.alloc (.cells (tab 0) 41)).setRow w2.heap.size (tab 256) = w3 at hW3 hB4 ⊢
  generalize hg : w2.heap.size = g at hW3 ⊢
  have hx3 := hx.below hB4
  clear hW hB3 hg hB2 hs2 hB1 hs1 H18 H19 H41 hz hx
  go_loop [7, 19] (fun v i => ∃ k : Nat, k ≤ xs.length ∧ i = .int .i64 k ∧ v = .int .u32 (fld (s ^^^ 4294967295) (nats (xs.take k)) : Nat)) (fun _ i => xs.length - (intOf i).toNat)
  case atStart => exact ⟨0, by omega, rfl, by simp [nats, fld_nil]⟩
  case round =>
    obtain ⟨k, hk, rfl, rfl⟩ := hrel
    have hyl := fld_lt (nats (xs.take k)) _ (xor_lt hs (show 4294967295 < 4294967296 by omega)) (nats_bytes fun x hx => hb x (List.mem_of_mem_take hx))
    by_cases hlt : k < xs.length
    · obtain ⟨b, off, v, rfl, hB, hck, hv⟩ := hx3.at_ hlt
      have hvb : 0 ≤ v ∧ v ≤ 255 := by
        rw [← hv.out, List.getElem?_eq_getElem hlt]; exact hb _ (List.getElem_mem _)
      obtain ⟨v, rfl⟩ := Int.eq_ofNat_of_zero_le hvb.1
      have HS := Lib.hid (fld_take (s ^^^ 4294967295) hlt hv.out)
      generalize fld (s ^^^ 4294967295) (nats (xs.take k)) = y at HS hyl ⊢
      obtain ⟨j, t, hj, hj2, ht, hst⟩ := table_step hyl (show v < 256 by omega)
      have htc : w3.cell? ⟨g, j, none⟩ = some (.int .u32 (t : Int)) := by rw [hW3.cell]; exact ht
      have HST := Lib.hid hst
      have hj3 : (0 : Int) ≤ (j : Int) ∧ (j : Int) < 256 := by omega
      clear ht hst hvb
      go_wp2
      go_round
      case rel => exact ⟨k + 1, by omega, by go_num, by rw [HS.out, HST.out]⟩
      case measure => simp [intOf]; omega
    · obtain rfl : k = xs.length := by omega
      rw [List.take_length] at hyl ⊢
      have HM : Hid (more s (nats xs) = fld (s ^^^ 4294967295) (nats xs) ^^^ 4294967295) := rfl
      generalize fld (s ^^^ 4294967295) (nats xs) = y at HM hyl ⊢
      go_wp2
      go_ret2
      exact ⟨ret2 (by rw [HM.out, turned hyl]) rfl, hB4⟩
set_option maxHeartbeats 400000 in
theorem more_far (s : Int) (A : Option Addr) (c n : Nat) (w : World) (hl : 1048576 < n) (hm : n ≤ 140737488355328) :
    Calls Try.prog 14 #[.int .u32 s, .slice A n c] w fun e w' => e = .returned (.tuple #[.int .u32 0, .int .i64 3]) ∧ w = w' := by
  go_enter Try.func14, Try.ntmps14
  go_wp2
  go_ret2
  exact ⟨rfl, rfl⟩
theorem sum_any (A : Option Addr) (c : Nat) (xs : List Int) (n : Nat) (hn : n = xs.length) (w : World) (hx : Rd .u8 w w.heap.size A xs) (hb : ∀ x ∈ xs, 0 ≤ x ∧ x ≤ 255) (hl : xs.length ≤ 1048576) (hc : xs.length ≤ c) :
    Calls Try.prog 11 #[.slice A n c] w fun e w' => e = .returned (.tuple #[.int .u32 (more 0 (nats xs) : Nat), .int .i64 0]) ∧ Below w.heap.size w w' := by
  have H := Lib.hid (more_any 0 (by omega) A c xs n hn w hx hb hl hc)
  clear hx hb hn
  go_enter Try.func11, Try.ntmps11
  go_wp2_with fail
  refine H.out.mono ?_
  rintro e w' ⟨rfl, hB⟩
  go_wp2
  go_ret2
  exact ⟨rfl, hB⟩
theorem sum_far (A : Option Addr) (c n : Nat) (w : World) (hl : 1048576 < n) (hm : n ≤ 140737488355328) :
    Calls Try.prog 11 #[.slice A n c] w fun e w' => e = .returned (.tuple #[.int .u32 0, .int .i64 3]) ∧ w = w' := by
  have H := Lib.hid (more_far 0 A c n w hl hm)
  go_enter Try.func11, Try.ntmps11
  go_wp2_with fail
  refine H.out.mono ?_
  rintro e w' ⟨rfl, rfl⟩
  go_wp2
  go_ret2
  exact ⟨rfl, rfl⟩
set_option maxHeartbeats 400000 in
theorem refMore_far (s : Int) (A : Option Addr) (c n : Nat) (w : World) (hl : 1048576 < n) (hm : n ≤ 140737488355328) :
    Calls Try.prog 15 #[.int .u32 s, .slice A n c] w fun e w' => e = .returned (.tuple #[.int .u32 0, .int .i64 3]) ∧ w = w' := by
  go_enter Try.func15, Try.ntmps15
  go_wp2
  go_ret2
  exact ⟨rfl, rfl⟩
theorem sh_one {y : Nat} (h : ((y : Int) % 2 == 1) = true) (hl : y < 4294967296) : bits .xor .u32 ((y : Int) / 2) 2197175160 = ((sh y : Nat) : Int) := sh_odd hl (by rw [and_one hl]; exact h)
theorem sh_none {y : Nat} (h : ((y : Int) % 2 == 1) = false) (hl : y < 4294967296) : (y : Int) / 2 = ((sh y : Nat) : Int) := sh_even hl (by rw [and_one hl]; exact h)
set_option maxRecDepth 100000 in
set_option maxHeartbeats 400000 in
theorem refMore_any (s : Nat) (hs : s < 4294967296) (A : Option Addr) (c : Nat) (xs : List Int) (n : Nat) (hn : n = xs.length) (w : World) (B : Nat) (hx : Rd .u8 w B A xs) (hb : ∀ x ∈ xs, 0 ≤ x ∧ x ≤ 255) (hl : xs.length ≤ 1048576) (hc : xs.length ≤ c) :
    Calls Try.prog 15 #[.int .u32 s, .slice A n c] w fun e w' => e = .returned (.tuple #[.int .u32 (more s (nats xs) : Nat), .int .i64 0]) ∧ w = w' := by
  subst hn
  go_enter Try.func15, Try.ntmps15
  go_wp2
  rw [turned hs]
  go_loop [6, 7] (fun v i => ∃ k : Nat, k ≤ xs.length ∧ i = .int .i64 k ∧ v = .int .u32 (fld (s ^^^ 4294967295) (nats (xs.take k)) : Nat)) (fun _ i => xs.length - (intOf i).toNat)
  case atStart => exact ⟨0, by omega, rfl, by simp [nats, fld_nil]⟩
  case round =>
    obtain ⟨k, hk, rfl, rfl⟩ := hrel
    have hyl := fld_lt (nats (xs.take k)) _ (xor_lt hs (show 4294967295 < 4294967296 by omega)) (nats_bytes fun x hx => hb x (List.mem_of_mem_take hx))
    by_cases hlt : k < xs.length
    · obtain ⟨b, off, v, rfl, hB, hck, hv⟩ := hx.at_ hlt
      have hvb : 0 ≤ v ∧ v ≤ 255 := by
        rw [← hv.out, List.getElem?_eq_getElem hlt]; exact hb _ (List.getElem_mem _)
      obtain ⟨v, rfl⟩ := Int.eq_ofNat_of_zero_le hvb.1
      have HS := Lib.hid (fld_take (s ^^^ 4294967295) hlt hv.out)
      generalize fld (s ^^^ 4294967295) (nats (xs.take k)) = y at HS hyl ⊢
      have hxo : bits .xor .u32 (y : Int) (v : Int) = ((y ^^^ v : Nat) : Int) := u32_xor_nat y v hyl (by omega)
      have hzl : y ^^^ v < 4294967296 := xor_lt hyl (by omega)
      have HSt : Hid (stp y v = shs 8 (y ^^^ v)) := rfl
      generalize y ^^^ v = z at hxo hzl HSt ⊢
      go_wp2
      clear hxo
      go_loop [6, 8] (fun u i => ∃ q : Nat, q ≤ 8 ∧ i = .int .i64 q ∧ u = .int .u32 (shs q z : Nat)) (fun _ i => 8 - (intOf i).toNat)
      case atStart => exact ⟨0, by omega, rfl, rfl⟩
      case round =>
        obtain ⟨q, hq, rfl, rfl⟩ := hrel
        have hql := shs_lt q hzl
        have HQ := Lib.hid (shs_succ q z)
        by_cases hlq : q < 8
        · generalize shs q z = p at HQ hql ⊢
          go_wp2
          all_goals
            go_round
            case rel => exact ⟨q + 1, by omega, by go_num, by rw [HQ.out]; first | rw [sh_one ‹_› hql] | rw [← sh_none ‹_› hql]⟩
            case measure => simp [intOf]; omega
        · obtain rfl : q = 8 := by omega
          generalize shs 8 z = p at HSt hql ⊢
          clear HQ
          go_wp2
          go_round
          case rel => exact ⟨k + 1, by omega, by go_num, by rw [HS.out, HSt.out]⟩
          case measure => simp [intOf]; omega
    · obtain rfl : k = xs.length := by omega
      rw [List.take_length] at hyl ⊢
      have HM : Hid (more s (nats xs) = fld (s ^^^ 4294967295) (nats xs) ^^^ 4294967295) := rfl
      generalize fld (s ^^^ 4294967295) (nats xs) = y at HM hyl ⊢
      go_wp2
      go_ret2
      exact ⟨ret2 (by rw [HM.out, turned hyl]) rfl, rfl⟩
theorem refSum_any (A : Option Addr) (c : Nat) (xs : List Int) (n : Nat) (hn : n = xs.length) (w : World) (B : Nat) (hx : Rd .u8 w B A xs) (hb : ∀ x ∈ xs, 0 ≤ x ∧ x ≤ 255) (hl : xs.length ≤ 1048576) (hc : xs.length ≤ c) :
    Calls Try.prog 12 #[.slice A n c] w fun e w' => e = .returned (.tuple #[.int .u32 (more 0 (nats xs) : Nat), .int .i64 0]) ∧ w = w' := by
  have H := Lib.hid (refMore_any 0 (by omega) A c xs n hn w B hx hb hl hc)
  clear hx hb hn
  go_enter Try.func12, Try.ntmps12
  go_wp2_with fail
  refine H.out.mono ?_
  rintro e w' ⟨rfl, rfl⟩
  go_wp2
  go_ret2
  exact ⟨rfl, rfl⟩
theorem refSum_far (A : Option Addr) (c n : Nat) (w : World) (hl : 1048576 < n) (hm : n ≤ 140737488355328) :
    Calls Try.prog 12 #[.slice A n c] w fun e w' => e = .returned (.tuple #[.int .u32 0, .int .i64 3]) ∧ w = w' := by
  have H := Lib.hid (refMore_far 0 A c n w hl hm)
  go_enter Try.func12, Try.ntmps12
  go_wp2_with fail
  refine H.out.mono ?_
  rintro e w' ⟨rfl, rfl⟩
  go_wp2
  go_ret2
  exact ⟨rfl, rfl⟩
end Go.Proofs.Ytfjigfmjhfoecaa
