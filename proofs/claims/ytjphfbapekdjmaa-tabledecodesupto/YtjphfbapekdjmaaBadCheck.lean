/- Check of the table that may not be. -/
import Derived.Test.YtjphfbapekdjmaaRefBad
import Derived.Test.YtjphfbapekdjmaaTabCheck
namespace Go.Proofs.Ytjphfbapekdjmaa
open Go.RowKit
set_option linter.unusedVariables false
set_option linter.unusedSimpArgs false
set_option maxRecDepth 100000

theorem badCheck_any (A : Option Addr) (w : World) (hs : Seen w w.heap.size A (ints .i64 [1])) : Calls Try.prog 11 #[tabV cs0 A 1 1] w fun e w' => e = .returned (.int .i64 4) ∧ Below w.heap.size w w' := by
  have := check_any cs0 [1] A 1 w.heap.size w rfl (by decide) cs0_b hs (Nat.le_refl _)
  rw [check0] at this
  exact this

end Go.Proofs.Ytjphfbapekdjmaa
