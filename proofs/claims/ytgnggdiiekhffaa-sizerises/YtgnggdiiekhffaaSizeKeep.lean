/- What the laws on sizes ask first: a closed fact. -/
import Derived.Test.YtgnggdiiekhffaaSizeOf
import Derived.Test.YtgnggdiiekhffaaRest
namespace Go.Proofs.Ytgnggdiiekhffaa
open Go.RowKit
set_option linter.unusedVariables false
set_option linter.unusedSimpArgs false

theorem Below.drew2 {B : Nat} {a w : World} (h : Below B a w) (n m : Nat) : Below B a ((w.drewN n).drewN m) := ⟨h.os, h.tape, h.output, h.size, h.block⟩
theorem sized_any (w : World) :
    Calls Try.prog 13 #[] w fun e w' => e = .returned (.bool true) ∧ ∃ q, w' = w.drewN q := by
  have H1 := veil (bits_any (-5) w)
  rw [show oS (-5) = 3 by decide, show oV (-5) = 2 by decide, show eS (-5) = 0 by decide] at H1
  go_enter Try.func13, Try.ntmps13
  go_wp2_with fail
  refine H1.out.mono ?_
  rintro e w1 ⟨rfl, q, rfl⟩
  go_wp2
  go_ret
  exact ⟨rfl, q, rfl⟩
/-- The contract where the number is small. -/
theorem bits_small (n : Int) (w : World) (h1 : -4095 ≤ n) (h2 : n ≤ 4095) :
    Calls Try.prog 8 #[.int .i64 n] w fun e w' => e = .returned (.tuple #[.int .i64 (szZ n : Nat), .int .i64 (vbZ n), .int .i64 0]) ∧ ∃ q, w' = w.drewN q := by
  have := bits_any n w
  rwa [oS_ok h1 h2, oV_ok h1 h2, eS_ok h1 h2] at this
end Go.Proofs.Ytgnggdiiekhffaa
