/- slices.swapRangeCmpFunc and slices.rotateCmpFunc over bundles: their contracts. -/
import Derived.Test.YthelblkpfkngmaaSortIns
namespace Go.Proofs.Ythelblkpfkngmaa
open Go.Shelf Go.RowKit Go.Lib Go.Sort
set_option linter.unusedVariables false
set_option linter.unusedSimpArgs false

set_option maxHeartbeats 4000000 in
set_option maxRecDepth 1000000 in
theorem swapRange_any (blk off cap a b n : Nat) (d0 d : Array Hd) (w0 w : World) (R : RowK encH 2 w0 blk off d0) (hs : d0.size = d.size) (S : SWK encH 2 w0 blk off d w) (hab : a + n ≤ b) (hb : b + n ≤ d.size) (hsz : d.size < 4611686018427387904) :
    Calls Try.prog 60 #[.slice (some ⟨blk, off, none⟩) d.size cap, .int .i64 a, .int .i64 b, .int .i64 n, .func (.func 42) #[] #[]] w fun e w' => e = .returned (.tuple #[]) ∧ SWK encH 2 w0 blk off (sw d a b n) w' := by
  have mixed := mixedH
  have S0 : Aside (SWK encH 2 w0 blk off d w) := S
  clear S
  go_enter Try.func60, Try.ntmps60
  go_wp2
  go_loopg [10] n (fun g1 vi wr => ∃ i : Nat, vi = .int .i64 i ∧ i ≤ n ∧ n - i = g1 ∧ Aside (SWK encH 2 w0 blk off (sw d a b i) wr))
  case atStart => exact ⟨0, rfl, Nat.zero_le _, rfl, S0⟩
  case round =>
    clear S0
    obtain ⟨i, rfl, hin, rfl, S1⟩ := hrel
    have hds := sw_size d a b i
    by_cases hlt : i < n
    · have hltz : (i : Int) < (n : Int) := by omega
      obtain ⟨x, hx⟩ : ∃ x, (sw d a b i)[a + i]! = x := ⟨_, rfl⟩
      obtain ⟨y, hy⟩ : ∃ y, (sw d a b i)[b + i]! = y := ⟨_, rfl⟩
      obtain ⟨bx0, fx0⟩ := swk_c0 S1.out R (by omega) (by omega) hx
      obtain ⟨bx1, fx1⟩ := swk_c1 S1.out R (by omega) (by omega) hx
      obtain ⟨by0, fy0⟩ := swk_c0 S1.out R (by omega) (by omega) hy
      obtain ⟨by1, fy1⟩ := swk_c1 S1.out R (by omega) (by omega) hy
      have S4 := swk_swap S1.out R (a + i) (b + i) (by omega) (by omega) _ _ hx hy
      have ea : ((a : Int) + (i : Int)).toNat = a + i := by omega
      have pa : (0 : Int) ≤ (a : Int) + (i : Int) := by omega
      have ba : (a : Int) + (i : Int) < (d.size : Int) := by omega
      have ra : IntKind.i64.wrap ((a : Int) + (i : Int)) = (a : Int) + (i : Int) := by rw [IntKind.wrap_i64]; omega
      have eb : ((b : Int) + (i : Int)).toNat = b + i := by omega
      have pb : (0 : Int) ≤ (b : Int) + (i : Int) := by omega
      have bb : (b : Int) + (i : Int) < (d.size : Int) := by omega
      have rb : IntKind.i64.wrap ((b : Int) + (i : Int)) = (b : Int) + (i : Int) := by rw [IntKind.wrap_i64]; omega
      clear S1 hx hy
      have Hds := veil hds; clear hds
      obtain ⟨x1, xA, xn, xc⟩ := x
      obtain ⟨y1, yA, yn, yc⟩ := y
      simp only at bx0 bx1 by0 by1 S4
      go_wp2_with fail
      go_big_region_o
      all_goals go_wp2
      go_roundg (n - (i + 1))
      case measure => omega
      case rel => exact ⟨i + 1, by go_num, by omega, rfl, S4⟩
    · have hltz : ¬ (i : Int) < (n : Int) := by omega
      obtain rfl : i = n := by omega
      go_wp2
      go_end0
      exact ⟨rfl, S1.out⟩

set_option maxHeartbeats 4000000 in
set_option maxRecDepth 1000000 in
theorem rotate_any (blk off cap a m b : Nat) (d0 d : Array Hd) (w0 w : World) (R : RowK encH 2 w0 blk off d0) (hs : d0.size = d.size) (S : SWK encH 2 w0 blk off d w) (ham : a < m) (hmb : m < b) (hb : b ≤ d.size) (hsz : d.size < 4611686018427387904) :
    Calls Try.prog 59 #[.slice (some ⟨blk, off, none⟩) d.size cap, .int .i64 a, .int .i64 m, .int .i64 b, .func (.func 42) #[] #[]] w fun e w' => e = .returned (.tuple #[]) ∧ ∃ d', PermIn a b d d' ∧ (∀ t, d'[t]! = rg d a m b t) ∧ SWK encH 2 w0 blk off d' w' := by
  have S0 : Aside (SWK encH 2 w0 blk off d w) := S
  clear S
  go_enter Try.func59, Try.ntmps59
  go_wp2
  go_loopg [10, 11] (b - a) (fun g1 vi vj wr => ∃ (i j : Nat) (dk : Array Hd), vi = .int .i64 i ∧ vj = .int .i64 j ∧ 0 < i ∧ 0 < j ∧ i ≤ m - a ∧ j ≤ b - m ∧ i + j = g1 ∧ dk.size = d.size ∧ Aside (SWK encH 2 w0 blk off dk wr) ∧ Hid (PermIn a b d dk ∧ ∀ t, rg dk (m - i) m (m + j) t = rg d a m b t))
  case atStart =>
    refine ⟨m - a, b - m, d, by congr 1; omega, by congr 1; omega, by omega, by omega, by omega, by omega, by omega, rfl, S0, permIn_refl _ _ _, fun t => ?_⟩
    rw [show m - (m - a) = a by omega, show m + (b - m) = b by omega]
  case round =>
    clear S0
    obtain ⟨i, j, dk, rfl, rfl, hi0, hj0, him, hjb, rfl, hsk, S1, HP⟩ := hrel
    by_cases hij : i = j
    · subst hij
      have hc := swapRange_any blk off cap (m - i) m i d0 dk w0 wr R (by omega) S1.out (by omega) (by omega) (by omega)
      rw [hsk, show ((m - i : Nat) : Int) = (m : Int) - (i : Int) by omega] at hc
      have HC := veil hc; clear hc
      go_wp2_with fail
      refine HC.out.mono ?_
      rintro e w1 ⟨rfl, S2⟩
      have S3 : Aside (SWK encH 2 w0 blk off (sw dk (m - i) m i) w1) := S2
      clear S2 HC
      go_wp2
      go_end0
      refine ⟨rfl, _, permIn_trans _ _ _ _ _ HP.out.1 (sw_perm _ _ _ _ _ _ (by omega) (by omega) (by omega) (by omega) (by omega)), fun t => ?_, S3.out⟩
      rw [rg_same _ (by omega) (by omega), HP.out.2 t]
    · by_cases hlt : j < i
      · have hc := swapRange_any blk off cap (m - i) m j d0 dk w0 wr R (by omega) S1.out (by omega) (by omega) (by omega)
        rw [hsk, show ((m - i : Nat) : Int) = (m : Int) - (i : Int) by omega] at hc
        have HC := veil hc; clear hc
        have hltz : (j : Int) < (i : Int) := by omega
        have hne : ((i : Int) != (j : Int)) = true := by simp; omega
        go_wp2_with fail
        refine HC.out.mono ?_
        rintro e w1 ⟨rfl, S2⟩
        have S3 : Aside (SWK encH 2 w0 blk off (sw dk (m - i) m j) w1) := S2
        clear S2 HC
        go_wp2
        go_roundg (i - j + j)
        case measure => omega
        case rel =>
          refine ⟨i - j, j, _, by congr 1; omega, rfl, by omega, hj0, by omega, hjb, rfl, by rw [sw_size]; exact hsk, S3, permIn_trans _ _ _ _ _ HP.out.1 (sw_perm _ _ _ _ _ _ (by omega) (by omega) (by omega) (by omega) (by omega)), fun t => ?_⟩
          rw [rg_more _ hlt hj0 (by omega) (by omega), HP.out.2 t]
      · have hc := swapRange_any blk off cap (m - i) (m + j - i) i d0 dk w0 wr R (by omega) S1.out (by omega) (by omega) (by omega)
        rw [hsk, show ((m - i : Nat) : Int) = (m : Int) - (i : Int) by omega, show ((m + j - i : Nat) : Int) = (m : Int) + (j : Int) - (i : Int) by omega] at hc
        have HC := veil hc; clear hc
        have hltz : ¬ (j : Int) < (i : Int) := by omega
        have hne : ((i : Int) != (j : Int)) = true := by simp; omega
        go_wp2_with fail
        refine HC.out.mono ?_
        rintro e w1 ⟨rfl, S2⟩
        have S3 : Aside (SWK encH 2 w0 blk off (sw dk (m - i) (m + j - i) i) w1) := S2
        clear S2 HC
        go_wp2
        go_roundg (i + (j - i))
        case measure => omega
        case rel =>
          refine ⟨i, j - i, _, rfl, by congr 1; omega, hi0, by omega, him, by omega, rfl, by rw [sw_size]; exact hsk, S3, permIn_trans _ _ _ _ _ HP.out.1 (sw_perm _ _ _ _ _ _ (by omega) (by omega) (by omega) (by omega) (by omega)), fun t => ?_⟩
          rw [rg_less _ (by omega) hi0 (by omega) (by omega), HP.out.2 t]
end Go.Proofs.Ythelblkpfkngmaa
