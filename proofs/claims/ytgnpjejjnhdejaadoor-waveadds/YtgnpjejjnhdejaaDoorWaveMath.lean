/- The basis functions in numbers, and the transform of a block. -/
import Derived.Test.YtgnpjejjnhdejaaDoorWSum
import Derived.Test.YtgnpjejjnhdejaaDoorQMath
namespace Go.Proofs.YtgnpjejjnhdejaaDoor
set_option linter.unusedVariables false
set_option linter.unusedSimpArgs false

/-- All 32 turns. -/
def wW : List Int := [4096, 4017, 3784, 3406, 2896, 2276, 1567, 799, 0, -799, -1567, -2276, -2896, -3406, -3784, -4017, -4096, -4017, -3784, -3406, -2896, -2276, -1567, -799, 0, 799, 1567, 2276, 2896, 3406, 3784, 4017]
/-- The basis function u at x. -/
def cW (u x : Nat) : Int := if u = 0 then 2896 else wW.getD (u * (2 * x + 1) % 32) 0
theorem cW_abs (u x : Nat) : -4096 ≤ cW u x ∧ cW u x ≤ 4096 := by
  unfold cW
  split
  · omega
  · have : ∀ k : Fin 32, -4096 ≤ wW.getD k.1 0 ∧ wW.getD k.1 0 ≤ 4096 := by decide +kernel
    exact this ⟨u * (2 * x + 1) % 32, Nat.mod_lt _ (by omega)⟩
theorem cW_zero (x : Nat) : cW 0 x = 2896 := rfl
theorem cW_turn : ∀ u x : Fin 8, cW u.1 (7 - x.1) = if u.1 % 2 = 0 then cW u.1 x.1 else - cW u.1 x.1 := by decide +kernel
theorem cW_sum : ∀ u : Fin 8, sumN 8 (fun x => cW u.1 x) = if u.1 = 0 then 23168 else 0 := by decide +kernel
/-- Rows of the basis are at right angles but for little. -/
theorem cW_apart : ∀ u v : Fin 8, absZ (sumN 8 (fun x => cW u.1 x * cW v.1 x) - if u.1 = v.1 then 67108864 else 0) < 16384 := by decide +kernel
/-- Columns of the basis. -/
def gW (x z : Nat) : Int := sumN 8 (fun u => cW u x * cW u z)
/-- How far the columns are from being at right angles. -/
def eW (x z : Nat) : Int := gW x z - if x = z then 67108864 else 0
theorem eW_small : ∀ x : Fin 8, sumN 8 (fun z => absZ (eW x.1 z)) ≤ 40000 := by decide +kernel
theorem cW_size : ∀ x : Fin 8, sumN 8 (fun u => absZ (cW u x.1)) ≤ 21641 := by decide +kernel
end Go.Proofs.YtgnpjejjnhdejaaDoor
