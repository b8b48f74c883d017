/- Finite sums of whole numbers. No program is named here. -/
import Derived.Test.YtgnpjejjnhdejaaDoorMem
namespace Go.Proofs.YtgnpjejjnhdejaaDoor
set_option linter.unusedVariables false
set_option linter.unusedSimpArgs false

/-- f 0 + .. + f (n - 1). -/
def sumN : Nat → (Nat → Int) → Int
  | 0, _ => 0
  | n + 1, f => sumN n f + f n
theorem sumN_zero (f : Nat → Int) : sumN 0 f = 0 := rfl
theorem sumN_succ (n : Nat) (f : Nat → Int) : sumN (n + 1) f = sumN n f + f n := rfl
theorem sumN_congr : ∀ {n : Nat} {f g : Nat → Int}, (∀ k, k < n → f k = g k) → sumN n f = sumN n g
  | 0, _, _, _ => rfl
  | n + 1, f, g, h => by rw [sumN_succ, sumN_succ, sumN_congr fun k hk => h k (by omega), h n (by omega)]
theorem sumN_nil : ∀ (n : Nat), sumN n (fun _ => 0) = 0
  | 0 => rfl
  | n + 1 => by rw [sumN_succ, sumN_nil n]; rfl
theorem sumN_add : ∀ (n : Nat) (f g : Nat → Int), sumN n (fun k => f k + g k) = sumN n f + sumN n g
  | 0, _, _ => rfl
  | n + 1, f, g => by rw [sumN_succ, sumN_succ, sumN_succ, sumN_add n f g]; omega
theorem sumN_neg : ∀ (n : Nat) (f : Nat → Int), sumN n (fun k => - f k) = - sumN n f
  | 0, _ => rfl
  | n + 1, f => by rw [sumN_succ, sumN_succ, sumN_neg n f]; omega
theorem sumN_sub (n : Nat) (f g : Nat → Int) : sumN n (fun k => f k - g k) = sumN n f - sumN n g := by
  have := sumN_add n f (fun k => - g k)
  rw [sumN_neg] at this
  rw [show (fun k => f k - g k) = fun k => f k + - g k from funext fun k => Int.sub_eq_add_neg, this]; omega
theorem sumN_mul : ∀ (n : Nat) (c : Int) (f : Nat → Int), sumN n (fun k => c * f k) = c * sumN n f
  | 0, c, _ => (Int.mul_zero c).symm
  | n + 1, c, f => by rw [sumN_succ, sumN_succ, sumN_mul n c f, Int.mul_add]
theorem sumN_mulR (n : Nat) (c : Int) (f : Nat → Int) : sumN n (fun k => f k * c) = sumN n f * c := by
  rw [Int.mul_comm, ← sumN_mul]
  exact sumN_congr fun k _ => Int.mul_comm _ _
theorem sumN_swap : ∀ (n m : Nat) (f : Nat → Nat → Int), sumN n (fun i => sumN m (fun j => f i j)) = sumN m (fun j => sumN n (fun i => f i j))
  | 0, m, f => by rw [sumN_zero]; exact (sumN_nil m).symm
  | n + 1, m, f => by rw [sumN_succ, sumN_swap n m f, ← sumN_add]; rfl
theorem sumN_le : ∀ {n : Nat} {f g : Nat → Int}, (∀ k, k < n → f k ≤ g k) → sumN n f ≤ sumN n g
  | 0, _, _, _ => Int.le_refl _
  | n + 1, f, g, h => by
    have h1 := sumN_le (n := n) fun k hk => h k (by omega)
    have h2 := h n (by omega)
    rw [sumN_succ, sumN_succ]; omega
theorem sumN_join : ∀ (n m : Nat) (f : Nat → Int), sumN (n + m) f = sumN n f + sumN m (fun k => f (n + k))
  | n, 0, f => by rw [sumN_zero, Nat.add_zero]; omega
  | n, m + 1, f => by rw [← Nat.add_assoc, sumN_succ, sumN_join n m f, sumN_succ]; omega
/-- A sum of m rows of n numbers each. -/
theorem sumN_rows (n : Nat) : ∀ (m : Nat) (f : Nat → Int), sumN (n * m) f = sumN m (fun y => sumN n (fun x => f (n * y + x)))
  | 0, f => rfl
  | m + 1, f => by rw [Nat.mul_succ, sumN_join, sumN_rows n m f, sumN_succ]
/-- The sum, its numbers in the other order. -/
theorem sumN_turn : ∀ (n : Nat) (f : Nat → Int), sumN n f = sumN n (fun k => f (n - 1 - k))
  | 0, _ => rfl
  | n + 1, f => by
    have h := sumN_join 1 n (fun k => f (n + 1 - 1 - k))
    rw [Nat.add_comm 1 n] at h
    rw [h, sumN_succ, sumN_turn n f]
    have e : sumN 1 (fun k => f (n + 1 - 1 - k)) = f n := by rw [sumN_succ, sumN_zero]; simp
    rw [e, sumN_congr (g := fun k => f (n + 1 - 1 - (1 + k))) (fun k hk => congrArg f (by omega))]
    omega
/-- A sum of which one number alone counts. -/
theorem sumN_one : ∀ {n : Nat} {a : Nat} {f : Nat → Int}, a < n → (∀ k, k < n → k ≠ a → f k = 0) → sumN n f = f a
  | 0, a, f, h, _ => by omega
  | n + 1, a, f, h, h0 => by
    rw [sumN_succ]
    by_cases e : a = n
    · subst e
      rw [sumN_congr (g := fun _ => 0) fun k hk => h0 k (by omega) (by omega), sumN_nil]; omega
    · rw [sumN_one (a := a) (by omega) fun k hk hne => h0 k (by omega) hne, h0 n (by omega) (fun h => e h.symm)]; omega
/-- How far a number is from zero. -/
def absZ (n : Int) : Int := if n < 0 then -n else n
theorem absZ_le {n m : Int} : absZ n ≤ m ↔ n ≤ m ∧ -m ≤ n := by unfold absZ; split <;> omega
theorem absZ_nonneg (n : Int) : 0 ≤ absZ n := by unfold absZ; split <;> omega
theorem absZ_self (n : Int) : n ≤ absZ n ∧ -(absZ n) ≤ n := absZ_le.1 (Int.le_refl _)
theorem absZ_mul (a b : Int) : absZ (a * b) = absZ a * absZ b := by
  rcases Int.lt_or_le a 0 with ha | ha <;> rcases Int.lt_or_le b 0 with hb | hb
  · have := Int.mul_nonneg (show 0 ≤ -a by omega) (show 0 ≤ -b by omega)
    rw [Int.neg_mul_neg] at this
    unfold absZ; rw [if_neg (by omega), if_pos ha, if_pos hb, Int.neg_mul_neg]
  · have := Int.mul_nonneg (show 0 ≤ -a by omega) hb
    rw [Int.neg_mul] at this
    unfold absZ
    rw [if_pos ha, if_neg (show ¬ b < 0 by omega), Int.neg_mul]
    split <;> omega
  · have := Int.mul_nonneg ha (show 0 ≤ -b by omega)
    rw [Int.mul_neg] at this
    unfold absZ
    rw [if_neg (show ¬ a < 0 by omega), if_pos hb, Int.mul_neg]
    split <;> omega
  · have := Int.mul_nonneg ha hb
    unfold absZ; rw [if_neg (by omega), if_neg (by omega), if_neg (by omega)]
theorem sumN_abs : ∀ (n : Nat) (f : Nat → Int), absZ (sumN n f) ≤ sumN n (fun k => absZ (f k))
  | 0, f => by show absZ 0 ≤ 0; decide
  | n + 1, f => by
    have h1 := absZ_le.1 (sumN_abs n f)
    have h2 := absZ_self (f n)
    rw [sumN_succ, sumN_succ, absZ_le]; omega
theorem mul_le_mulZ {a b c d : Int} (h1 : a ≤ b) (h2 : c ≤ d) (ha : 0 ≤ a) (hd : 0 ≤ d) : a * c ≤ b * d :=
  Int.le_trans (Int.mul_le_mul_of_nonneg_left h2 ha) (Int.mul_le_mul_of_nonneg_right h1 hd)
end Go.Proofs.YtgnpjejjnhdejaaDoor
