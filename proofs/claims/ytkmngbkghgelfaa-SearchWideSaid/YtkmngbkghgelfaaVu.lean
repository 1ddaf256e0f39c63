/- The walks of the library's stable sort at hits, at whatever length. -/
import Derived.Test.YtkmngbkghgelfaaVj
import Derived.Test.YtkmngbkghgelfaaVt
namespace Go.Proofs.Ytkmngbkghgelfaa
open Go.Shelf Go.RowKit Go.Lib Go.Sort
set_option linter.unusedVariables false
theorem dvd_step {D s a : Nat} (h1 : D ∣ s) (h2 : D ∣ a) (h : s < a) : s + D ≤ a := by
  have := Nat.le_of_dvd (by omega) (Nat.dvd_sub h2 h1)
  omega
/-- Runs of B places, from the multiples of B on, are sorted. -/
def RunsTo (B n a : Nat) (d : Array (Int × Int)) : Prop := ∀ s, B ∣ s → s < a → SortedIn ltH s (min (s + B) n) d
def RunsOn (B n a : Nat) (d : Array (Int × Int)) : Prop := ∀ s, B ∣ s → a ≤ s → SortedIn ltH s (min (s + B) n) d
theorem SortedIn.none {lt : Int × Int → Int × Int → Bool} {a b : Nat} {d : Array (Int × Int)} (h : b ≤ a + 1) : SortedIn lt a b d := fun i j h1 h2 h3 => by omega
theorem RunsTo.step {B n a : Nat} {d d' : Array (Int × Int)} (h : RunsTo B n a d) (ha : B ∣ a) (hp : PermIn a (a + B) d d') (hs : SortedIn ltH a (a + B) d') (hn : a + B ≤ n) : RunsTo B n (a + B) d' := fun s h1 h2 => by
  rcases Nat.lt_trichotomy s a with h3 | h3 | h3
  · exact SortedIn.congrB (h s h1 h3) (fun i h4 h5 => hp.2.1 i (.inl (by have := dvd_step h1 ha h3; omega)))
  · subst h3; rw [Nat.min_eq_left hn]; exact hs
  · have := dvd_step ha h1 h3; omega
/-- The last run. -/
theorem RunsTo.last {B n a : Nat} {d d' : Array (Int × Int)} (h : RunsTo B n a d) (ha : B ∣ a) (hp : PermIn a n d d') (hs : SortedIn ltH a n d') (hn : n < a + B) : RunsOn B n 0 d' := fun s h1 _ => by
  rcases Nat.lt_trichotomy s a with h3 | h3 | h3
  · exact SortedIn.congrB (h s h1 h3) (fun i h4 h5 => hp.2.1 i (.inl (by have := dvd_step h1 ha h3; omega)))
  · subst h3; rw [Nat.min_eq_right (by omega)]; exact hs
  · have := dvd_step ha h1 h3; exact SortedIn.none (by omega)
theorem RunsOn.later {B n a b : Nat} {d d' : Array (Int × Int)} (h : RunsOn B n a d) (hp : PermIn a b d d') (hab : a ≤ b) : RunsOn B n b d' := fun s h1 h2 =>
  SortedIn.congrB (h s h1 (by omega)) (fun i h4 h5 => hp.2.1 i (.inr (by omega)))
theorem RunsOn.at_ {B n a b : Nat} {d : Array (Int × Int)} (h : RunsOn B n a d) {s e : Nat} (hs : B ∣ s) (ha : a ≤ s) (he : min (s + B) n = e) : SortedIn ltH s e d := by
  have := h s hs ha; rw [he] at this; exact this
theorem permIn_glue {n a b : Nat} {d d1 d2 : Array (Int × Int)} (h1 : PermIn 0 n d d1) (hb : b ≤ n) (hn : n ≤ d.size) (h2 : PermIn a b d1 d2) : PermIn 0 n d d2 :=
  permIn_trans _ _ _ _ _ h1 (permIn_mono _ _ _ _ _ _ (Nat.zero_le _) hb (by rw [h1.1]; exact hn) h2)
theorem ins_sw (blk off cap a b : Nat) (d0 dk : Array (Int × Int)) (w0 wr : World) (R : RowK encH 2 w0 blk off d0) (hs : dk.size = d0.size) (S : SWK encH 2 w0 blk off dk wr) (hab : a ≤ b) (hb : b ≤ dk.size) (hsz : dk.size < 4611686018427387904) :
    Calls Try.prog 62 #[.slice (some ⟨blk, off, none⟩) dk.size cap, .int .i64 a, .int .i64 b, .func (.func 51) #[] #[]] wr (Merged encH 2 w0 blk off ltH dk a b) := by
  refine (insertion_any cfH 51 #[] blk off cap a b dk wr eg36 (cmpLaysH _ _ _ _) (S.holds R.hblk R.hH hs) (S.lt R.hblk) hab hb hsz).mono ?_
  rintro e w' ⟨rfl, n, os, rfl⟩
  rw [ltOf_cfH]
  have hp := insertionSort_holds swoH dk a b hab hb
  exact ⟨rfl, _, hp.1, hp.2, S.on R.hblk n _ os hp.1.1⟩
theorem sym_sw (blk off cap a m b : Nat) (d0 dk : Array (Int × Int)) (w0 wr : World) (R : RowK encH 2 w0 blk off d0) (hs : dk.size = d0.size) (S : SWK encH 2 w0 blk off dk wr) (ham : a < m) (hmb : m < b) (hb : b ≤ dk.size) (hsz : dk.size < 4611686018427387904)
    (h1 : SortedIn ltH a m dk) (h2 : SortedIn ltH m b dk) :
    Calls Try.prog 63 #[.slice (some ⟨blk, off, none⟩) dk.size cap, .int .i64 a, .int .i64 m, .int .i64 b, .func (.func 51) #[] #[]] wr (Merged encH 2 w0 blk off ltH dk a b) := by
  have := symMerge_any hitLays encH cfH (by rw [ltOf_cfH]; exact swoH) 51 #[] eg36 blk off cap d0 w0 (cmpLaysH _ _ _ _) R (by omega) (b - a) a m b dk wr (Nat.le_refl _) hs S ham hmb hb (by rw [ltOf_cfH]; exact h1) (by rw [ltOf_cfH]; exact h2)
  rw [ltOf_cfH] at this
  exact this

set_option maxHeartbeats 4000000 in
set_option maxRecDepth 1000000 in
theorem stable_any (blk off cap : Nat) (d : Array (Int × Int)) (w : World) (hH : HoldsK encH 2 w blk off d) (hblk : blk < w.heap.size) (hsz : d.size < 1152921504606846976) :
    Calls Try.prog 56 #[.slice (some ⟨blk, off, none⟩) d.size cap, .int .i64 d.size, .func (.func 51) #[] #[]] w (Merged encH 2 w blk off ltH d 0 d.size) := by
  have R : RowK encH 2 w blk off d := ⟨encH_len, encH_one, hH, hblk⟩
  have INS : Aside (∀ (a b : Nat) (dk : Array (Int × Int)) (wr : World), dk.size = d.size → SWK encH 2 w blk off dk wr → a ≤ b → b ≤ d.size → Calls Try.prog 62 #[.slice (some ⟨blk, off, none⟩) d.size cap, .int .i64 a, .int .i64 b, .func (.func 51) #[] #[]] wr (Merged encH 2 w blk off ltH dk a b)) := fun a b dk wr h1 h2 h3 h4 => by
    have := ins_sw blk off cap a b d dk w wr R h1 h2 h3 (by omega) (by omega)
    rw [h1] at this; exact this
  have SYM : Aside (∀ (a m b : Nat) (dk : Array (Int × Int)) (wr : World), dk.size = d.size → SWK encH 2 w blk off dk wr → a < m → m < b → b ≤ d.size → SortedIn ltH a m dk → SortedIn ltH m b dk → Calls Try.prog 63 #[.slice (some ⟨blk, off, none⟩) d.size cap, .int .i64 a, .int .i64 m, .int .i64 b, .func (.func 51) #[] #[]] wr (Merged encH 2 w blk off ltH dk a b)) := fun a m b dk wr h1 h2 h3 h4 h5 h6 h7 => by
    have := sym_sw blk off cap a m b d dk w wr R h1 h2 h3 h4 (by omega) (by omega) h6 h7
    rw [h1] at this; exact this
  have S0 : Aside (SWK encH 2 w blk off d w) := SWK.start hH
  clear R hH
  obtain ⟨n, hn⟩ : ∃ n, d.size = n := ⟨_, rfl⟩
  have HN := Lib.hid hn
  rw [hn] at INS SYM hsz ⊢
  clear hn
  go_enter Try.func56, Try.ntmps56
  go_wp2
  go_loopg [7, 8] n (fun gx s7 s8 wr => ∃ (a : Nat) (dk : Array (Int × Int)), s7 = .int .i64 a ∧ s8 = .int .i64 ((a : Int) + 20) ∧ a ≤ n ∧ n - a ≤ gx ∧ Aside (SWK encH 2 w blk off dk wr) ∧ Hid (20 ∣ a ∧ RunsTo 20 n a dk ∧ PermIn 0 n d dk))
  case atStart => exact ⟨0, d, rfl, rfl, by omega, by omega, S0, (⟨⟨0, rfl⟩, fun s _ h => absurd h (Nat.not_lt_zero _), permIn_refl _ _ _⟩ : 20 ∣ 0 ∧ RunsTo 20 n 0 d ∧ PermIn 0 n d d)⟩
  case round =>
    clear S0
    obtain ⟨a, dk, rfl, rfl, han, hgx, S1, HR⟩ := hrel
    by_cases hlt : a + 20 ≤ n
    · have hltz : (a : Int) + 20 ≤ (n : Int) := by omega
      have H1 := INS.out a (a + 20) dk wr (HR.out.2.2.1.trans HN.out) S1.out (by omega) hlt
      rw [show ((a + 20 : Nat) : Int) = (a : Int) + 20 by omega] at H1
      have HC := Lib.hid H1
      clear H1 S1
      go_wp2_with fail
      refine HC.out.mono ?_
      rintro e w2 ⟨rfl, d2, hp, ho, hs2⟩
      have S2 : Aside (SWK encH 2 w blk off d2 w2) := hs2
      have HR2 : Hid (20 ∣ a + 20 ∧ RunsTo 20 n (a + 20) d2 ∧ PermIn 0 n d d2) := ⟨Nat.dvd_add HR.out.1 ⟨1, rfl⟩, HR.out.2.1.step HR.out.1 hp ho hlt, permIn_glue HR.out.2.2 (by omega) (by have := HN.out; omega) hp⟩
      clear hp ho hs2 HC HR
      go_wp2
      go_roundg (n - (a + 20))
      case measure => omega
      case rel => exact ⟨a + 20, d2, by go_num, by go_num, by omega, by omega, S2, HR2⟩
    · have hltz : ¬ (a : Int) + 20 ≤ (n : Int) := by omega
      have HC := Lib.hid (INS.out a n dk wr (HR.out.2.2.1.trans HN.out) S1.out (by omega) (Nat.le_refl _))
      clear S1
      go_wp2_with fail
      refine HC.out.mono ?_
      rintro e w2 ⟨rfl, d2, hp, ho, hs2⟩
      have S2 : Aside (SWK encH 2 w blk off d2 w2) := hs2
      have HR2 : Hid (RunsOn 20 n 0 d2 ∧ PermIn 0 n d d2) := ⟨HR.out.2.1.last HR.out.1 hp ho (by omega), permIn_glue HR.out.2.2 (Nat.le_refl _) (by have := HN.out; omega) hp⟩
      clear hp ho hs2 HC HR INS
      go_wp2
      go_loopg [6] n (fun gx s6 wr => ∃ (B : Nat) (dk : Array (Int × Int)), s6 = .int .i64 B ∧ 20 ≤ B ∧ B ≤ 2 * n + 20 ∧ n - B ≤ gx ∧ Aside (SWK encH 2 w blk off dk wr) ∧ Hid (RunsOn B n 0 dk ∧ PermIn 0 n d dk))
      case atStart => exact ⟨20, d2, rfl, by omega, by omega, by omega, S2, HR2⟩
      case round =>
        clear S2 HR2 hltz hlt
        obtain ⟨B, dk, rfl, hB20, hBn, hgx, S3, HR3⟩ := hrel
        by_cases hBlt : B < n
        · have hBz : (B : Int) < (n : Int) := by omega
          go_wp2
          go_loopg [7, 8] n (fun gx s7 s8 wr => ∃ (a : Nat) (dk : Array (Int × Int)), s7 = .int .i64 a ∧ s8 = .int .i64 ((a : Int) + 2 * (B : Int)) ∧ a ≤ n ∧ n - a ≤ gx ∧ Aside (SWK encH 2 w blk off dk wr) ∧ Hid (2 * B ∣ a ∧ RunsTo (2 * B) n a dk ∧ RunsOn B n a dk ∧ PermIn 0 n d dk))
          case atStart => exact ⟨0, dk, rfl, by simp, by omega, by omega, S3, (⟨⟨0, rfl⟩, fun s _ h => absurd h (Nat.not_lt_zero _), HR3.out.1, HR3.out.2⟩ : 2 * B ∣ 0 ∧ RunsTo (2 * B) n 0 dk ∧ RunsOn B n 0 dk ∧ PermIn 0 n d dk)⟩
          case round =>
            clear S3 HR3
            obtain ⟨a, dk, rfl, rfl, han, hgx, S4, HR4⟩ := hrel
            have HBa := Lib.hid (Nat.dvd_trans ⟨2, Nat.mul_comm 2 B⟩ HR4.out.1 : B ∣ a)
            by_cases hlt : a + 2 * B ≤ n
            · have hltz : (a : Int) + 2 * (B : Int) ≤ (n : Int) := by omega
              have H1 := SYM.out a (a + B) (a + 2 * B) dk wr (HR4.out.2.2.2.1.trans HN.out) S4.out (by omega) (by omega) hlt (HR4.out.2.2.1.at_ (b := 0) HBa.out (Nat.le_refl _) (by omega)) (HR4.out.2.2.1.at_ (b := 0) (Nat.dvd_add HBa.out ⟨1, by omega⟩) (by omega) (by omega))
              rw [show ((a + 2 * B : Nat) : Int) = (a : Int) + 2 * (B : Int) by omega, show ((a + B : Nat) : Int) = (a : Int) + (B : Int) by omega] at H1
              have HC := Lib.hid H1
              clear H1 S4
              go_wp2_with fail
              refine HC.out.mono ?_
              rintro e w5 ⟨rfl, d5, hp, ho, hs5⟩
              have S5 : Aside (SWK encH 2 w blk off d5 w5) := hs5
              have HR5 : Hid (2 * B ∣ a + 2 * B ∧ RunsTo (2 * B) n (a + 2 * B) d5 ∧ RunsOn B n (a + 2 * B) d5 ∧ PermIn 0 n d d5) := ⟨Nat.dvd_add HR4.out.1 ⟨1, by omega⟩, HR4.out.2.1.step HR4.out.1 hp ho hlt, HR4.out.2.2.1.later hp (by omega), permIn_glue HR4.out.2.2.2 (by omega) (by have := HN.out; omega) hp⟩
              clear hp ho hs5 HC HR4
              go_wp2
              go_roundg (n - (a + 2 * B))
              case measure => omega
              case rel => exact ⟨a + 2 * B, d5, by go_num, by go_num, by omega, by omega, S5, HR5⟩
            · have hltz : ¬ (a : Int) + 2 * (B : Int) ≤ (n : Int) := by omega
              by_cases hm : a + B < n
              · have hmz : (a : Int) + (B : Int) < (n : Int) := by omega
                have H1 := SYM.out a (a + B) n dk wr (HR4.out.2.2.2.1.trans HN.out) S4.out (by omega) (by omega) (Nat.le_refl _) (HR4.out.2.2.1.at_ (b := 0) HBa.out (Nat.le_refl _) (by omega)) (HR4.out.2.2.1.at_ (b := 0) (Nat.dvd_add HBa.out ⟨1, by omega⟩) (by omega) (by omega))
                rw [show ((a + B : Nat) : Int) = (a : Int) + (B : Int) by omega] at H1
                have HC := Lib.hid H1
                clear H1 S4
                go_wp2_with fail
                refine HC.out.mono ?_
                rintro e w5 ⟨rfl, d5, hp, ho, hs5⟩
                have S5 : Aside (SWK encH 2 w blk off d5 w5) := hs5
                have HR5 : Hid (RunsOn (B * 2) n 0 d5 ∧ PermIn 0 n d d5) := ⟨by rw [Nat.mul_comm]; exact HR4.out.2.1.last HR4.out.1 hp ho (by omega), permIn_glue HR4.out.2.2.2 (Nat.le_refl _) (by have := HN.out; omega) hp⟩
                clear hp ho hs5 HC HR4
                go_wp2
                go_roundg (n - B * 2)
                case measure => omega
                case rel => exact ⟨B * 2, d5, by go_num, by omega, by omega, by omega, S5, HR5⟩
              · have hmz : ¬ (a : Int) + (B : Int) < (n : Int) := by omega
                have HR5 : Hid (RunsOn (B * 2) n 0 dk ∧ PermIn 0 n d dk) := ⟨by rw [Nat.mul_comm]; exact HR4.out.2.1.last HR4.out.1 (permIn_refl _ _ _) (HR4.out.2.2.1.at_ (b := 0) HBa.out (Nat.le_refl _) (by omega)) (by omega), HR4.out.2.2.2⟩
                clear HR4
                go_wp2
                go_roundg (n - B * 2)
                case measure => omega
                case rel => exact ⟨B * 2, dk, by go_num, by omega, by omega, by omega, S4, HR5⟩
        · have hBz : ¬ (B : Int) < (n : Int) := by omega
          go_wp2
          go_end0
          exact ⟨rfl, dk, HR3.out.2, HR3.out.1.at_ (b := 0) ⟨0, rfl⟩ (Nat.le_refl _) (by omega), S3.out⟩
/-- The hits of d, the nearest first. -/
def srtH (d : Array (Int × Int)) : List (Int × Int) := d.toList.mergeSort fun x y => !ltH y x
theorem sortStable_any (blk off cap : Nat) (d : Array (Int × Int)) (w : World) (hH : HoldsK encH 2 w blk off d) (hblk : blk < w.heap.size) (hsz : d.size < 1152921504606846976) :
    Calls Try.prog 50 #[.slice (some ⟨blk, off, none⟩) d.size cap, .func (.func 51) #[] #[]] w fun e w' => e = .returned (.tuple #[]) ∧ SWK encH 2 w blk off (srtH d).toArray w' := by
  have H := Lib.hid (stable_any blk off cap d w hH hblk hsz)
  clear hH
  go_enter Try.func50, Try.ntmps50
  go_wp2_with fail
  refine H.out.mono ?_
  rintro e w' ⟨rfl, d', hp, ho, hs⟩
  go_wp2
  go_end0
  refine ⟨rfl, ?_⟩
  have e : d' = (srtH d).toArray := by
    have := sorted_unique_holds (lt := ltH) swoH sepH d d' hp ho
    unfold srtH
    rw [← this]
  rw [← e]
  exact hs
end Go.Proofs.Ytkmngbkghgelfaa
