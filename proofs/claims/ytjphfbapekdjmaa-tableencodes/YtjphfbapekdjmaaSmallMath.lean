/- Two small facts on numbers. -/
import Derived.Test.YtjphfbapekdjmaaMem
namespace Go.Proofs.Ytjphfbapekdjmaa
open Go.RowKit
theorem wrap64_nat (n : Nat) (h : n < 9223372036854775808) : wrap64 (n : Int) = n := by unfold wrap64; omega
theorem two_pow_lt (a b : Nat) (h : a ≤ b) : 2 ^ a ≤ 2 ^ b := Nat.pow_le_pow_right (by omega) h
end Go.Proofs.Ytjphfbapekdjmaa
