/- Sizes of numbers and their bits. No program is named here. -/
import Derived.Test.YtemckjkdlbipcaaMem
namespace Go.Proofs.Ytemckjkdlbipcaa
set_option linter.unusedVariables false
set_option linter.unusedSimpArgs false
set_option maxRecDepth 100000

/-- How many bits a number has. -/
def szN (m : Nat) : Nat := if m = 0 then 0 else Nat.log2 m + 1
def szZ (n : Int) : Nat := szN n.natAbs
/-- Two to this. -/
def pw (k : Nat) : Int := ((2 ^ k : Nat) : Int)
/-- The bits of a number. -/
def vbZ (n : Int) : Int := if 0 < n then n else n + pw (szZ n) - 1
/-- The number that a width and bits tell. -/
def bkZ (w : Nat) (v : Int) : Int := if pw w ≤ 2 * v then v else v - pw w + 1
theorem pw_pos (k : Nat) : 1 ≤ pw k := by have := Nat.two_pow_pos k; unfold pw; omega
theorem pw_succ (k : Nat) : pw (k + 1) = 2 * pw k := by unfold pw; rw [Nat.pow_succ]; omega
theorem pw_zero : pw 0 = 1 := rfl
theorem pw_mono {a b : Nat} (h : a ≤ b) : pw a ≤ pw b := by
  have := Nat.pow_le_pow_right (n := 2) (by omega) h
  unfold pw; omega
theorem szN_zero : szN 0 = 0 := rfl
theorem szN_lt (m : Nat) : m < 2 ^ szN m := by
  unfold szN
  by_cases h : m = 0
  · rw [if_pos h, h]; decide
  · rw [if_neg h]; exact Nat.lt_log2_self
theorem szN_ge {m : Nat} (h : m ≠ 0) : 2 ^ (szN m - 1) ≤ m := by
  unfold szN
  rw [if_neg h]
  exact Nat.log2_self_le h
theorem szN_pos {m : Nat} (h : m ≠ 0) : 0 < szN m := by unfold szN; rw [if_neg h]; omega
theorem szN_le {m k : Nat} (h : m < 2 ^ k) : szN m ≤ k := by
  by_cases h0 : m = 0
  · rw [h0, szN_zero]; omega
  · have h1 := szN_ge h0
    have h2 : 2 ^ (szN m - 1) < 2 ^ k := Nat.lt_of_le_of_lt h1 h
    have := (Nat.pow_lt_pow_iff_right (a := 2) (by omega)).1 h2
    have := szN_pos h0
    omega
theorem szN_gt {m k : Nat} (h : 2 ^ k ≤ m) : k < szN m := by
  have h1 := szN_lt m
  have h2 : 2 ^ k < 2 ^ szN m := Nat.lt_of_le_of_lt h h1
  exact (Nat.pow_lt_pow_iff_right (a := 2) (by omega)).1 h2
theorem szN_is {m k : Nat} (h1 : 2 ^ k ≤ m) (h2 : m < 2 ^ (k + 1)) : szN m = k + 1 := by
  have := szN_le h2
  have := szN_gt h1
  omega
theorem szN_mono {a b : Nat} (h : a ≤ b) : szN a ≤ szN b := szN_le (Nat.lt_of_le_of_lt h (szN_lt b))
theorem szN_double {m : Nat} (h : m ≠ 0) : szN (2 * m) = szN m + 1 := by
  have h1 := szN_ge h
  have h2 := szN_lt m
  have h3 := szN_pos h
  obtain ⟨k, hk⟩ : ∃ k, szN m = k + 1 := ⟨szN m - 1, by omega⟩
  rw [hk] at h1 h2 ⊢
  rw [Nat.add_sub_cancel] at h1
  refine szN_is ?_ ?_
  · rw [Nat.pow_succ]; omega
  · rw [Nat.pow_succ 2 (k + 1)]; omega
theorem szZ_neg (n : Int) : szZ (-n) = szZ n := by unfold szZ; rw [Int.natAbs_neg]
theorem szZ_zero : szZ 0 = 0 := rfl
theorem szZ_pos {n : Int} (h : n ≠ 0) : 0 < szZ n := szN_pos (by omega)
theorem szZ_lt (n : Int) : n < pw (szZ n) ∧ -n < pw (szZ n) := by
  have := szN_lt n.natAbs
  unfold pw szZ
  omega
theorem szZ_ge {n : Int} (h : n ≠ 0) : pw (szZ n) ≤ 2 * n ∨ pw (szZ n) ≤ -2 * n := by
  have h1 := szN_ge (m := n.natAbs) (by omega)
  have h2 := szN_pos (m := n.natAbs) (by omega)
  unfold pw szZ
  obtain ⟨k, hk⟩ : ∃ k, szN n.natAbs = k + 1 := ⟨szN n.natAbs - 1, by omega⟩
  rw [hk] at h1 ⊢
  rw [Nat.add_sub_cancel] at h1
  rw [Nat.pow_succ]
  omega
theorem szZ_le {n : Int} {k : Nat} (h1 : n < pw k) (h2 : -n < pw k) : szZ n ≤ k := szN_le (by unfold pw at h1 h2; omega)
theorem szZ_double {n : Int} (h : n ≠ 0) : szZ (2 * n) = szZ n + 1 := by
  unfold szZ
  rw [Int.natAbs_mul, show Int.natAbs 2 = 2 from rfl]
  exact szN_double (by omega)
/-- The bits lie within the width. -/
theorem vbZ_in (n : Int) : 0 ≤ vbZ n ∧ vbZ n < pw (szZ n) := by
  have h := szZ_lt n
  unfold vbZ
  split
  · omega
  · constructor <;> omega
/-- There and back. -/
theorem bk_vb (n : Int) : bkZ (szZ n) (vbZ n) = n := by
  have h := szZ_lt n
  unfold bkZ vbZ
  by_cases h0 : n = 0
  · subst h0; decide
  · have h1 := szZ_ge h0
    by_cases hp : 0 < n
    · rw [if_pos hp, if_pos (by omega)]
    · rw [if_neg hp, if_neg (by omega)]; omega
theorem sz_bk {w : Nat} {v : Int} (h1 : 0 ≤ v) (h2 : v < pw w) : szZ (bkZ w v) = w := by
  unfold bkZ
  cases w with
  | zero =>
    rw [pw_zero] at h2
    obtain rfl : v = 0 := by omega
    decide
  | succ k =>
    rw [pw_succ] at h2 ⊢
    split
    · unfold szZ
      refine szN_is ?_ ?_
      · unfold pw at *; omega
      · rw [Nat.pow_succ]; unfold pw at *; omega
    · unfold szZ
      refine szN_is ?_ ?_
      · unfold pw at *; omega
      · rw [Nat.pow_succ]; unfold pw at *; omega
theorem vb_bk {w : Nat} {v : Int} (h1 : 0 ≤ v) (h2 : v < pw w) : vbZ (bkZ w v) = v := by
  have hs := sz_bk h1 h2
  unfold vbZ
  rw [hs]
  have hp := pw_pos w
  unfold bkZ
  by_cases h : pw w ≤ 2 * v
  · rw [if_pos h, if_pos (by omega)]
  · rw [if_neg h, if_neg (by omega)]; omega
/-- The other side's bits. -/
theorem vb_neg {n : Int} (h : n ≠ 0) : vbZ (-n) = pw (szZ n) - 1 - vbZ n := by
  unfold vbZ
  rw [szZ_neg]
  by_cases h0 : 0 < n
  · rw [if_pos h0, if_neg (by omega)]; omega
  · rw [if_neg h0, if_pos (by omega)]; omega
theorem sz_12 {n : Int} (h1 : -4095 ≤ n) (h2 : n ≤ 4095) : szZ n ≤ 12 := szZ_le (by show n < 4096; omega) (by show -n < 4096; omega)
theorem sz_11 {n : Int} (h1 : -2047 ≤ n) (h2 : n ≤ 2047) : szZ n ≤ 11 := szZ_le (by show n < 2048; omega) (by show -n < 2048; omega)
theorem sz_tell {m n : Int} (h1 : szZ m = szZ n) (h2 : vbZ m = vbZ n) : m = n := by rw [← bk_vb m, ← bk_vb n, h1, h2]
theorem bk_in {w : Nat} {v : Int} (h1 : 0 ≤ v) (h2 : v < pw w) : -(pw w) < bkZ w v ∧ bkZ w v < pw w := by
  have hp := pw_pos w
  unfold bkZ; split <;> omega
theorem vb_zero : vbZ 0 = 0 := rfl
/-- What is turned over bit by bit. -/
theorem xor_flip {w v : Nat} (h : v < 2 ^ w) : v ^^^ (2 ^ w - 1 - v) = 2 ^ w - 1 := by
  apply Nat.eq_of_testBit_eq
  intro i
  rw [Nat.testBit_xor, Nat.testBit_two_pow_sub_one]
  have e : 2 ^ w - 1 - v = 2 ^ w - (v + 1) := by omega
  rw [e, Nat.testBit_two_pow_sub_succ h]
  by_cases hi : i < w
  · simp [hi]
  · have : v.testBit i = false := Nat.testBit_lt_two_pow (Nat.lt_of_lt_of_le h (Nat.pow_le_pow_right (by omega) (by omega)))
    simp [hi, this]
end Go.Proofs.Ytemckjkdlbipcaa
