/- slices.stableCmpFunc and slices.SortStableFunc over bundles: their contracts. -/
import Derived.Test.YthelblkpfkngmaaSortSym2
namespace Go.Proofs.Ythelblkpfkngmaa
open Go.Shelf Go.RowKit Go.Lib Go.Sort
set_option linter.unusedVariables false
set_option linter.unusedSimpArgs false

def Al (B p : Nat) : Prop := ∃ s, p = s * B
theorem Al.zero (B : Nat) : Al B 0 := ⟨0, by simp⟩
theorem Al.next {B p : Nat} (h : Al B p) : Al B (p + B) := by obtain ⟨s, rfl⟩ := h; exact ⟨s + 1, by rw [Nat.add_mul, Nat.one_mul]⟩
theorem Al.half {B p : Nat} (h : Al (2 * B) p) : Al B p := by obtain ⟨s, rfl⟩ := h; exact ⟨2 * s, by rw [Nat.mul_comm 2 s, Nat.mul_assoc]⟩
theorem Al.lt {B p a : Nat} (h : Al B p) (h2 : Al B a) (h3 : p < a) : p + B ≤ a := by
  obtain ⟨s, rfl⟩ := h
  obtain ⟨k, rfl⟩ := h2
  have h4 : s < k := by
    rcases Nat.lt_or_ge s k with h | h
    · exact h
    · have := Nat.mul_le_mul_right B h; omega
  have := Nat.mul_le_mul_right B (show s + 1 ≤ k from h4)
  rw [Nat.add_mul, Nat.one_mul] at this
  exact this
theorem Al.le {B p a : Nat} (h : Al B p) (h2 : Al B a) (h3 : p < a + B) : p ≤ a := by
  rcases Nat.lt_or_ge a p with h4 | h4
  · have := h2.lt h h4; omega
  · exact h4
/-- All blocks of B are sorted. -/
def Blks (n B : Nat) (d : Array Hd) : Prop := ∀ p, Al B p → SortK keyH p (min (p + B) n) d
/-- Blocks of 2 B up to a, of B from a on. -/
def Halfs (n B a : Nat) (d : Array Hd) : Prop := (∀ p, Al (2 * B) p → p < a → SortK keyH p (min (p + 2 * B) n) d) ∧ ∀ p, Al B p → a ≤ p → SortK keyH p (min (p + B) n) d
section
variable {n B a : Nat} {d d' : Array Hd}
theorem Halfs.start (h : Blks n B d) : Halfs n B 0 d := ⟨fun p _ h => by omega, fun p hp _ => h p hp⟩
theorem Halfs.next (h : Halfs n B a d) (hB : 0 < B) (ha : Al (2 * B) a) (hn : a + 2 * B ≤ n) (hp : PermIn a (a + 2 * B) d d') (hs : SortK keyH a (a + 2 * B) d') : Halfs n B (a + 2 * B) d' := by
  refine ⟨fun p h1 h2 => ?_, fun p h1 h2 => ?_⟩
  · have h3 := h1.le ha h2
    rcases Nat.eq_or_lt_of_le h3 with rfl | h3
    · rw [Nat.min_eq_left hn]; exact hs
    · have h4 := h1.lt ha h3
      exact (h.1 p h1 h3).congr fun i _ hi => hp.2.1 i (.inl (by omega))
  · exact (h.2 p h1 (by omega)).congr fun i hi _ => hp.2.1 i (.inr (by omega))
theorem Halfs.done (h : Halfs n B a d) (hB : 0 < B) (ha : Al (2 * B) a) (hn : n < a + 2 * B) (hp : PermIn a n d d') (hs : SortK keyH a n d') : Blks n (2 * B) d' := by
  intro p h1
  rcases Nat.lt_trichotomy p a with h2 | h2 | h2
  · have h4 := h1.lt ha h2
    exact (h.1 p h1 h2).congr fun i _ hi => hp.2.1 i (.inl (by omega))
  · subst h2
    exact hs.part (Nat.le_refl _) (by omega)
  · have h4 := ha.lt h1 h2
    exact SortK.one _ _ (by omega)
theorem Halfs.idle (h : Halfs n B a d) (hB : 0 < B) (ha : Al (2 * B) a) (hn : n ≤ a + B) : Blks n (2 * B) d := by
  refine h.done hB ha (by omega) (permIn_refl _ _ _) ?_
  have := h.2 a ha.half (Nat.le_refl _)
  exact this.part (Nat.le_refl _) (by omega)
end

set_option maxHeartbeats 4000000 in
set_option maxRecDepth 1000000 in
theorem stable_any (blk off cap : Nat) (d : Array Hd) (w0 : World) (R : RowK encH 2 w0 blk off d) (hsz : d.size < 1152921504606846976) :
    Calls Try.prog 52 #[.slice (some ⟨blk, off, none⟩) d.size cap, .int .i64 d.size, .func (.func 42) #[] #[]] w0 fun e w' => e = .returned (.tuple #[]) ∧ ∃ d', PermIn 0 d.size d d' ∧ SortK keyH 0 d.size d' ∧ SWK encH 2 w0 blk off d' w' := by
  have S0 : Aside (SWK encH 2 w0 blk off d w0) := SWK.start R.hH
  obtain ⟨n, hn⟩ : ∃ n, n = d.size := ⟨_, rfl⟩
  rw [← hn] at hsz ⊢
  have Hn := veil hn; clear hn
  go_enter Try.func52, Try.ntmps52
  go_wp2
  go_loopg [7, 8] (n + 1) (fun g1 va vb wr => ∃ (a b : Nat) (dk : Array Hd), va = .int .i64 a ∧ vb = .int .i64 b ∧ b = a + 20 ∧ a ≤ n ∧ n + 1 - a ≤ g1 ∧ dk.size = n ∧ Aside (SWK encH 2 w0 blk off dk wr) ∧ Hid (Al 20 a ∧ PermIn 0 n d dk ∧ ∀ p, Al 20 p → p < a → SortK keyH p (p + 20) dk))
  case atStart => exact ⟨0, 20, d, rfl, rfl, rfl, by omega, by omega, Hn.out.symm, S0, Al.zero _, permIn_refl _ _ _, fun p _ h => by omega⟩
  case round =>
    clear S0
    obtain ⟨a, b, dk, rfl, rfl, rfl, han, hg, hsk, S1, HP⟩ := hrel
    by_cases hle : a + 20 ≤ n
    · have hlez : (a : Int) + 20 ≤ (n : Int) := by omega
      have hc := insertion_any blk off cap a (a + 20) d dk w0 wr R (by have := Hn.out; omega) S1.out (by omega) (by omega) (by omega)
      rw [hsk, show ((a + 20 : Nat) : Int) = (a : Int) + 20 by omega] at hc
      have hi := insertionSort_holds (lt := ltOf cfH) swoH dk a (a + 20) (by omega) (by omega)
      generalize insertionSort (ltOf cfH) dk a (a + 20) = d2 at hc hi
      have HC := veil hc; have HI := veil hi
      clear hc hi
      go_wp2_with fail
      refine HC.out.mono ?_
      rintro e w1 ⟨rfl, S2⟩
      have S3 : Aside (SWK encH 2 w0 blk off d2 w1) := S2
      clear S2 HC S1
      go_wp2
      go_roundg (n - a)
      case measure => omega
      case rel =>
        obtain ⟨h1, h2, h3⟩ := HP.out
        obtain ⟨i1, i2⟩ := HI.out
        refine ⟨a + 20, a + 20 + 20, d2, by go_num, by go_num, rfl, by omega, by omega, i1.1.trans hsk, S3, h1.next, permIn_trans _ _ _ _ _ h2 (permIn_mono _ _ _ _ _ _ (Nat.zero_le _) (by omega) (by omega) i1), fun p hp hpa => ?_⟩
        have h4 := hp.le h1 hpa
        rcases Nat.eq_or_lt_of_le h4 with rfl | h4
        · exact sortK_of i2
        · have h5 := hp.lt h1 h4
          exact (h3 p hp h4).congr fun i _ hi => i1.2.1 i (.inl (by omega))
    · have hlez : ¬ (a : Int) + 20 ≤ (n : Int) := by omega
      have hc := insertion_any blk off cap a n d dk w0 wr R (by have := Hn.out; omega) S1.out (by omega) (by omega) (by omega)
      rw [hsk] at hc
      have hi := insertionSort_holds (lt := ltOf cfH) swoH dk a n (by omega) (by omega)
      generalize insertionSort (ltOf cfH) dk a n = d2 at hc hi
      have hbl : PermIn 0 n d d2 ∧ Blks n 20 d2 := by
        obtain ⟨h1, h2, h3⟩ := HP.out
        obtain ⟨i1, i2⟩ := hi
        refine ⟨permIn_trans _ _ _ _ _ h2 (permIn_mono _ _ _ _ _ _ (Nat.zero_le _) (by omega) (by omega) i1), fun p hp => ?_⟩
        rcases Nat.lt_trichotomy p a with h4 | h4 | h4
        · have h5 := hp.lt h1 h4
          exact ((h3 p hp h4).congr fun i _ hi => i1.2.1 i (.inl (by omega))).part (Nat.le_refl _) (by omega)
        · subst h4; exact (sortK_of i2).part (Nat.le_refl _) (by omega)
        · have h5 := h1.lt hp h4
          exact SortK.one _ _ (by omega)
      have hs2 : d2.size = n := hi.1.1.trans hsk
      have HC := veil hc; have HB := veil hbl
      clear hc hi hbl HP
      go_wp2_with fail
      refine HC.out.mono ?_
      rintro e w1 ⟨rfl, S2⟩
      have S3 : Aside (SWK encH 2 w0 blk off d2 w1) := S2
      clear S2 HC S1
      go_wp2
      go_loopg [6, 7, 8] (n + 1) (fun g2 vB va vb wr2 => ∃ (B : Nat) (dl : Array Hd), vB = .int .i64 B ∧ 20 ≤ B ∧ B ≤ 2 * n + 20 ∧ n + 1 - B ≤ g2 ∧ dl.size = n ∧ Aside (SWK encH 2 w0 blk off dl wr2) ∧ Hid (PermIn 0 n d dl ∧ Blks n B dl))
      case atStart => exact ⟨20, d2, rfl, by omega, by omega, by omega, hs2, S3, HB.out⟩
      case round =>
        clear S3 HB hs2 hsk
        obtain ⟨B, dl, rfl, hB20, hBn, hg2, hsl, S1, HP⟩ := hrel
        by_cases hlt : B < n
        · have hltz : (B : Int) < (n : Int) := by omega
          go_wp2
          go_loopg [7, 8] (n + 1) (fun g3 va vb wr3 => ∃ (a b : Nat) (dm : Array Hd), va = .int .i64 a ∧ vb = .int .i64 b ∧ b = a + 2 * B ∧ a ≤ n ∧ n + 1 - a ≤ g3 ∧ dm.size = n ∧ Aside (SWK encH 2 w0 blk off dm wr3) ∧ Hid (Al (2 * B) a ∧ PermIn 0 n d dm ∧ Halfs n B a dm))
          case atStart => exact ⟨0, 2 * B, dl, rfl, by go_num, by omega, by omega, by omega, hsl, S1, Al.zero _, HP.out.1, Halfs.start HP.out.2⟩
          case round =>
            clear S1 HP hsl
            obtain ⟨a2, b2, dm, rfl, rfl, rfl, han2, hg3, hsm, S1, HP⟩ := hrel
            by_cases hle2 : a2 + 2 * B ≤ n
            · have hlez2 : (a2 : Int) + 2 * (B : Int) ≤ (n : Int) := by omega
              obtain ⟨h1, h2, h3⟩ := HP.out
              have hc := symMerge_all blk off cap d w0 R (by have := Hn.out; omega) (2 * B) a2 (a2 + B) (a2 + 2 * B) dm wr (by omega) (by have := Hn.out; omega) S1.out (by omega) (by omega) (by omega)
                ((h3.2 a2 h1.half (Nat.le_refl _)).part (Nat.le_refl _) (by omega)) ((h3.2 (a2 + B) h1.half.next (by omega)).part (Nat.le_refl _) (by omega))
              rw [hsm, show ((a2 + B : Nat) : Int) = (a2 : Int) + (B : Int) by omega, show ((a2 + 2 * B : Nat) : Int) = (a2 : Int) + 2 * (B : Int) by omega] at hc
              have HC := veil hc
              clear hc h1 h2 h3
              go_wp2_with fail
              refine HC.out.mono ?_
              rintro e w4 ⟨rfl, d5, p1, p2, S2⟩
              have S3 : Aside (SWK encH 2 w0 blk off d5 w4) := S2
              have H1 := veil p1; have H2 := veil p2
              clear S2 HC S1 p1 p2
              go_wp2
              go_roundg (n - a2)
              case measure => omega
              case rel =>
                obtain ⟨h1, h2, h3⟩ := HP.out
                exact ⟨a2 + 2 * B, a2 + 2 * B + 2 * B, d5, by go_num, by go_num, rfl, by omega, by omega, H1.out.1.trans hsm, S3, h1.next, permIn_trans _ _ _ _ _ h2 (permIn_mono _ _ _ _ _ _ (Nat.zero_le _) (by omega) (by omega) H1.out), h3.next (by omega) h1 hle2 H1.out H2.out⟩
            · have hlez2 : ¬ (a2 : Int) + 2 * (B : Int) ≤ (n : Int) := by omega
              by_cases hm : a2 + B < n
              · have hmz : (a2 : Int) + (B : Int) < (n : Int) := by omega
                obtain ⟨h1, h2, h3⟩ := HP.out
                have hc := symMerge_all blk off cap d w0 R (by have := Hn.out; omega) n a2 (a2 + B) n dm wr (by omega) (by have := Hn.out; omega) S1.out (by omega) (by omega) (by omega)
                  ((h3.2 a2 h1.half (Nat.le_refl _)).part (Nat.le_refl _) (by omega)) ((h3.2 (a2 + B) h1.half.next (by omega)).part (Nat.le_refl _) (by omega))
                rw [hsm, show ((a2 + B : Nat) : Int) = (a2 : Int) + (B : Int) by omega] at hc
                have HC := veil hc
                clear hc h1 h2 h3
                go_wp2_with fail
                refine HC.out.mono ?_
                rintro e w4 ⟨rfl, d5, p1, p2, S2⟩
                have S3 : Aside (SWK encH 2 w0 blk off d5 w4) := S2
                have H1 := veil p1; have H2 := veil p2
                clear S2 HC S1 p1 p2
                go_wp2
                go_roundg (n - B)
                case measure => omega
                case rel =>
                  obtain ⟨h1, h2, h3⟩ := HP.out
                  exact ⟨B * 2, d5, by go_num, by omega, by omega, by omega, H1.out.1.trans hsm, S3, permIn_trans _ _ _ _ _ h2 (permIn_mono _ _ _ _ _ _ (Nat.zero_le _) (Nat.le_refl _) (by omega) H1.out), by rw [Nat.mul_comm B 2]; exact h3.done (by omega) h1 (by omega) H1.out H2.out⟩
              · have hmz : ¬ (a2 : Int) + (B : Int) < (n : Int) := by omega
                go_wp2
                go_roundg (n - B)
                case measure => omega
                case rel =>
                  obtain ⟨h1, h2, h3⟩ := HP.out
                  exact ⟨B * 2, dm, by go_num, by omega, by omega, by omega, hsm, S1, h2, by rw [Nat.mul_comm B 2]; exact h3.idle (by omega) h1 (by omega)⟩
        · have hltz : ¬ (B : Int) < (n : Int) := by omega
          go_wp2
          go_end0
          have h1 := HP.out.2 0 (Al.zero _)
          exact ⟨rfl, dl, HP.out.1, h1.part (Nat.le_refl _) (by omega), S1.out⟩
set_option maxHeartbeats 1000000 in
theorem sortStable_any (blk off cap : Nat) (d : Array Hd) (w0 : World) (R : RowK encH 2 w0 blk off d) (hsz : d.size < 1152921504606846976) :
    Calls Try.prog 41 #[.slice (some ⟨blk, off, none⟩) d.size cap, .func (.func 42) #[] #[]] w0 fun e w' => e = .returned (.tuple #[]) ∧ ∃ d', PermIn 0 d.size d d' ∧ SortK keyH 0 d.size d' ∧ SWK encH 2 w0 blk off d' w' := by
  have HC := veil (stable_any blk off cap d w0 R hsz)
  go_enter Try.func41, Try.ntmps41
  go_wp2_with fail
  refine HC.out.mono ?_
  rintro e w1 ⟨rfl, d', p1, p2, S2⟩
  have S3 : Aside (SWK encH 2 w0 blk off d' w1) := S2
  have H1 := veil p1; have H2 := veil p2
  clear S2 HC p1 p2
  go_wp2
  go_end0
  exact ⟨rfl, d', H1.out, H2.out, S3.out⟩
end Go.Proofs.Ythelblkpfkngmaa
